/- The contract of takeName of a cursor. -/
import Derived.Test.YteggjihhjdeieaaGreatCuts
namespace Go.Proofs.YteggjihhjdeieaaGreat
open Go.RowKit

theorem At.only {w w' : World} {g x : Nat} {l : List Int} (h : At w g l) (ho : Only x w w') (hn : g ≠ x) : At w' g l := (ho.block g h.lt hn).trans h
theorem str_of {w : World} {a : Option Addr} {n cap : Nat} {l : List Int} (h : BytesAt w (.slice a n cap) l) : (convert 33 9 (.slice a n cap)).run Tryz.prog w = .ok (.string (strOfNums l)) w := by
  obtain ⟨a', cap', hv, hcap, hb, hc⟩ := h
  simp only [Value.slice.injEq] at hv
  obtain ⟨rfl, rfl, rfl⟩ := hv
  by_cases h0 : 0 < l.length
  · obtain ⟨g, off, rfl, _, hcell⟩ := hc h0
    exact run_convert_bytes_arg (P := Tryz.prog) w 33 5 Tryz.underlying33 Tryz.underlying5 g off l.length cap l rfl (fun i hi => by rw [hcell i hi, List.getD_eq_getElem?_getD, List.getElem?_eq_getElem hi]; rfl) 9 Tryz.underlying9
  · obtain rfl : l = [] := List.eq_nil_of_length_eq_zero (by omega)
    show (convert 33 9 (.slice a 0 cap)).run Tryz.prog w = .ok (.string ByteArray.empty) w
    rw [run_convert_bytes_string w 33 9 5 _ 0 cap Tryz.underlying33 Tryz.underlying5 Tryz.underlying9]
    cases a <;> simp [Conv.bytesToString, loadCells]
    all_goals rfl
theorem okL_len {b : Bool} {l : List Int} (h : l.length = 8) : (okL b l).length = 8 := by
  unfold okL
  split
  · exact h
  · rfl
theorem at_new (w : World) : At (w.alloc (.cells (nm M.zero8) 24)) w.heap.size M.zero8 := at_alloc w M.zero8
theorem Cur.alloc {w : World} {g : Nat} {R : Option Nat} {e : Int} {v : Value} {l : List Int} (h : Cur w g R e v l) (o : Obj) : Cur (w.alloc o) g R e v l := h.below ((Below.refl _ _).alloc (Nat.le_refl _) _)
/-- What a name's read hands back where it fails, and where it does not. -/
def NameBad (w : World) (g : Nat) (R : Option Nat) (e : Int) (r : Ending) (w' : World) : Prop := ∃ m : List Int, m.length = 8 ∧ r = .returned (.tuple #[.agg (nm m), .int .i64 e]) ∧ (∃ v' l', Cur w' g R 0 v' l') ∧ Only g w w'
def NameGot (w : World) (g : Nat) (R : Option Nat) (m rest : List Int) (r : Ending) (w' : World) : Prop := r = .returned (.tuple #[.agg (nm m), .int .i64 0]) ∧ (∃ v', Cur w' g R 0 v' rest) ∧ Only g w w'
/-- What is stored into a block that the call made leaves what the caller knows. -/
theorem Only.new {g n : Nat} {w a b : World} (h : Only g w a) (hb : Only n a b) (hn : w.heap.size ≤ n) : Only g w b := ⟨hb.os.trans h.os, hb.tape.trans h.tape, hb.output.trans h.output, Nat.le_trans h.size hb.size, fun k hk hne => (hb.block k (Nat.lt_of_lt_of_le hk h.size) (by omega)).trans (h.block k hk hne)⟩

/-- A whole name is stored, and of the old blocks that one alone turns. -/
theorem wpList_put_name {ops : Array Oper} {rest : List Oper} {o : Oper} {a : Act} {w : World} {Q : Exit → Act → World → Prop} (hgd : o.guard = none) (x y : Operand) (ho : o.op = .store 24 x y) (g : Nat) (l m : List Int)
    (hx : a.eval x = .pointer (some ⟨g, 0, none⟩)) (hy : a.eval y = .agg (nm m)) (hat : At w g l) (hl : l.length = 8) (hm : m.length = 8)
    (h : ∀ w', Hid (At w' g m) → Hid (Only g w w') → wpList Tryz.prog ops Q rest (a.put o.dst undef) w') : wpList Tryz.prog ops Q (o :: rest) a w :=
  wpList_store_row hgd 24 x y ho g (nm m) hx hy 24 (nm l) hat (size23n hm) (by rw [nm_size, nm_size, hl, hm]) (nm_one m)
    (h _ (Lib.hid (at_setRow_same hat)) (Lib.hid ⟨rfl, rfl, rfl, by simp [World.setRow], fun k _ hk => by simp only [World.setRow, Array.getElem?_modify]; rw [if_neg (fun e => hk e.symm)]⟩))
theorem results_nameE {fn : Func} {p u : Tmp} (h : fn.results = #[.cell p 24, .tmp u]) (tmps : Array Value) (w : World) (g : Nat) (l : List Int) (hp : tmps.getD p undef = .pointer (some ⟨g, 0, none⟩)) (hat : At w g l) (hl : l.length = 8) :
    (results fn tmps).run Tryz.prog w = .ok (.tuple #[.agg (nm l), tmps.getD u undef]) w := results_name h tmps w g l hp hat hl
theorem takeName_empty (g : Nat) (R : Option Nat) (v : Value) (w : World) (h : Cur w g R 0 v []): Calls Tryz.prog 89 #[.pointer (some ⟨g, 0, none⟩)] w (NameBad w g R 4) := by
  have hz := zero23
  have HC := Lib.hid (h.alloc (.cells (nm M.zero8) 24))
  have HA := Lib.hid (at_new w)
  have HF := Lib.hid (h.far (Nat.le_refl _))
  clear h
  go_enter Tryz.func89, Tryz.ntmps89
  go_wp2_with fail
  refine (takeByte_bad g R v _ HC.out).mono ?_
  rintro r w' ⟨rfl, rfl⟩
  go_wp2_with (refine wpList_put_name rfl _ _ rfl w.heap.size M.zero8 M.zero8 rfl rfl HA.out rfl rfl ?_; intro w2 A2 O2)
  refine bodyPost_ret (results_name rfl _ _ w.heap.size M.zero8 rfl A2.out rfl) rfl ?_
  exact ⟨M.zero8, rfl, rfl, ⟨v, [], HC.out.only O2.out HF.out.1 HF.out.2⟩, ((Only.refl g w).alloc _).new O2.out (Nat.le_refl _)⟩
theorem takeName_big (g : Nat) (R : Option Nat) (c : Int) (v : Value) (l : List Int) (w : World) (h : Cur w g R 0 v (c :: l)) (hl : l.length + 1 ≤ 30000) (hc : 8 < c) : Calls Tryz.prog 89 #[.pointer (some ⟨g, 0, none⟩)] w (NameBad w g R 3) := by
  have hz := zero23
  have HC := Lib.hid (h.alloc (.cells (nm M.zero8) 24))
  have HA := Lib.hid (at_new w)
  have HF := Lib.hid (h.far (Nat.le_refl _))
  clear h
  go_enter Tryz.func89, Tryz.ntmps89
  go_wp2_with fail
  refine (takeByte_got g c R v l _ HC.out hl).mono ?_
  rintro r w1 ⟨rfl, ⟨v1, hc1⟩, ho1⟩
  have C1 := Lib.hid hc1
  have O1 := Lib.hid ho1
  have A1 := Lib.hid (HA.out.only ho1 HF.out.1.symm)
  clear hc1 ho1 HC HA
  go_wp2_with (refine wpList_put_name rfl _ _ rfl w.heap.size M.zero8 M.zero8 rfl rfl A1.out rfl rfl ?_; intro w2 A2 O2)
  refine bodyPost_ret (results_name rfl _ _ w.heap.size M.zero8 rfl A2.out rfl) rfl ?_
  exact ⟨M.zero8, rfl, rfl, ⟨v1, l, C1.out.only O2.out HF.out.1 HF.out.2⟩, (((Only.refl g w).alloc _).trans O1.out).new O2.out (Nat.le_refl _)⟩
theorem takeName_short (g : Nat) (R : Option Nat) (c : Int) (v : Value) (l : List Int) (w : World) (h : Cur w g R 0 v (c :: l)) (hl : l.length + 1 ≤ 30000) (hc0 : 0 ≤ c) (hc : c ≤ 8) (hs : (l.length : Int) < c) : Calls Tryz.prog 89 #[.pointer (some ⟨g, 0, none⟩)] w (NameBad w g R 4) := by
  have hz := zero23
  have HC := Lib.hid (h.alloc (.cells (nm M.zero8) 24))
  have HA := Lib.hid (at_new w)
  have HF := Lib.hid (h.far (Nat.le_refl _))
  clear h
  go_enter Tryz.func89, Tryz.ntmps89
  go_wp2_with fail
  refine (takeByte_got g c R v l _ HC.out hl).mono ?_
  rintro r w1 ⟨rfl, ⟨v1, hc1⟩, ho1⟩
  have C1 := Lib.hid hc1
  have O1 := Lib.hid ho1
  have A1 := Lib.hid (HA.out.only ho1 HF.out.1.symm)
  clear hc1 ho1 HC HA
  go_wp2_with fail
  refine (cut_bad g c R v1 l _ C1.out (by omega) hs).mono ?_
  rintro r w2 ⟨rfl, rfl⟩
  go_wp2_with (refine wpList_put_name rfl _ _ rfl w.heap.size M.zero8 M.zero8 rfl rfl A1.out rfl rfl ?_; intro w2 A2 O2)
  refine bodyPost_ret (results_name rfl _ _ w.heap.size M.zero8 rfl A2.out rfl) rfl ?_
  exact ⟨M.zero8, rfl, rfl, ⟨v1, l, C1.out.only O2.out HF.out.1 HF.out.2⟩, (((Only.refl g w).alloc _).trans O1.out).new O2.out (Nat.le_refl _)⟩
theorem takeName_none (g : Nat) (R : Option Nat) (v : Value) (l : List Int) (w : World) (h : Cur w g R 0 v (0 :: l)) (hl : l.length + 1 ≤ 30000) : Calls Tryz.prog 89 #[.pointer (some ⟨g, 0, none⟩)] w (NameGot w g R M.zero8 l) := by
  have hz := zero23
  have HC := Lib.hid (h.alloc (.cells (nm M.zero8) 24))
  have HA := Lib.hid (at_new w)
  have HF := Lib.hid (h.far (Nat.le_refl _))
  clear h
  go_enter Tryz.func89, Tryz.ntmps89
  go_wp2_with fail
  refine (takeByte_got g 0 R v l _ HC.out hl).mono ?_
  rintro r w1 ⟨rfl, ⟨v1, hc1⟩, ho1⟩
  have C1 := Lib.hid hc1
  have O1 := Lib.hid ho1
  have A1 := Lib.hid (HA.out.only ho1 HF.out.1.symm)
  clear hc1 ho1 HC HA
  go_wp2_with fail
  refine (cut_got g 0 R v1 l _ C1.out (by omega) (by omega)).mono ?_
  rintro r w2 ⟨a2, cap2, rfl, -, ⟨v2, hc2⟩, ho2⟩
  have C2 := Lib.hid hc2
  have O2 := Lib.hid ho2
  have A2 := Lib.hid (A1.out.only ho2 HF.out.1.symm)
  clear hc2 ho2
  go_wp2_with (refine wpList_put_name rfl _ _ rfl w.heap.size M.zero8 M.zero8 rfl rfl A2.out rfl rfl ?_; intro w3 A3 O3)
  refine bodyPost_ret (results_name rfl _ _ w.heap.size M.zero8 rfl A3.out rfl) rfl ?_
  exact ⟨rfl, ⟨v2, C2.out.only O3.out HF.out.1 HF.out.2⟩, ((((Only.refl g w).alloc _).trans O1.out).trans O2.out).new O3.out (Nat.le_refl _)⟩
set_option maxRecDepth 100000 in
/-- What is said of a name's text behind its length. -/
theorem takeName_word (g k : Nat) (R : Option Nat) (v : Value) (l : List Int) (b : Bool) (w : World) (h : Cur w g R 0 v ((k : Int) :: l)) (hl : l.length + 1 ≤ 30000) (hk0 : 0 < k) (hk8 : k ≤ 8) (hk : k ≤ l.length) (hb : Hid (M.isN (l.take k) = b)) :
    Calls Tryz.prog 89 #[.pointer (some ⟨g, 0, none⟩)] w fun r w' => r = .returned (.tuple #[.agg (nm (okL b (M.pad (l.take k)))), .int .i64 (okE b)]) ∧ (∃ v', Cur w' g R 0 v' (l.drop k)) ∧ Only g w w' := by
  have hz := zero23
  have HC := Lib.hid (h.alloc (.cells (nm M.zero8) 24))
  have HA := Lib.hid (at_new w)
  have HF := Lib.hid (h.far (Nat.le_refl _))
  clear h
  go_enter Tryz.func89, Tryz.ntmps89
  go_wp2_with fail
  refine (takeByte_got g k R v l _ HC.out hl).mono ?_
  rintro r w1 ⟨rfl, ⟨v1, hc1⟩, ho1⟩
  have C1 := Lib.hid hc1
  have O1 := Lib.hid ho1
  have A1 := Lib.hid (HA.out.only ho1 HF.out.1.symm)
  clear hc1 ho1 HC HA
  have hki : ¬ (8 : Int) < (k : Int) := by omega
  have hkz : ¬ (k : Int) = 0 := by omega
  go_wp2_with fail
  refine (cut_got g k R v1 l _ C1.out (by omega) hk).mono ?_
  rintro r w2 ⟨a2, cap2, rfl, hb2, ⟨v2, hc2⟩, ho2⟩
  have C2 := Lib.hid hc2
  have O2 := Lib.hid ho2
  have A2 := Lib.hid (A1.out.only ho2 HF.out.1.symm)
  have hcv := str_of hb2.1
  obtain ⟨s, hs⟩ : ∃ s, s = strOfNums (l.take k) := ⟨_, rfl⟩
  rw [← hs] at hcv
  have HS := Lib.hid hs
  have HT := Lib.hid hb2.1.bytes
  have HP := Lib.hid (okL_len (b := b) (M.pad_len (l.take k)))
  clear hc2 ho2 hb2 hs
  go_wp2_with fail
  refine (of_is s (l.take k) b _ HS HT (Lib.hid ((M.of_eq _).trans hb.out))).mono ?_
  rintro r w3 ⟨rfl, c3⟩
  have C3 := Lib.hid (C2.out.below c3)
  have A3 := Lib.hid (A2.out.below c3)
  have B3 := Lib.hid (Only.of_below (g := g) c3)
  clear c3
  go_wp2_with (refine wpList_put_name rfl _ _ rfl w.heap.size M.zero8 (okL b (M.pad (l.take k))) rfl rfl A3.out rfl HP.out ?_; intro w4 A4 O4)
  refine bodyPost_ret (results_name rfl _ _ w.heap.size _ rfl A4.out HP.out) rfl ?_
  exact ⟨rfl, ⟨v2, C3.out.only O4.out HF.out.1 HF.out.2⟩, (((((Only.refl g w).alloc _).trans O1.out).trans O2.out).trans B3.out).new O4.out (Nat.le_refl _)⟩
end Go.Proofs.YteggjihhjdeieaaGreat
