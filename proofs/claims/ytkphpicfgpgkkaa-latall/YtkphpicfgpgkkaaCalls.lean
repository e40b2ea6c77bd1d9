/- The contracts of the function that LatAll hands to an iterator, and of the iterator that calls it. -/
import Derived.Test.YtkphpicfgpgkkaaAlive
namespace Go.Proofs.Ytkphpicfgpgkkaa
open Go.RowKit

theorem wpList_load22 {ops : Array Oper} {rest : List Oper} {op : Oper} {a : Act} {w : World} {Q : Exit → Act → World → Prop} (hgd : op.guard = none) (x : Operand) (ho : op.op = .load 22 x) (g : Nat) (D : Option Addr) (m c : Nat) (hx : a.eval x = .pointer (some ⟨g, 0, none⟩)) (hb : Blk w g 22 [.slice D m c])
    (h : wpList Try.prog ops Q rest (a.put op.dst (.slice D m c)) w) : wpList Try.prog ops Q (op :: rest) a w := wpList_val hgd _ (exec_load22 x ho g D m c hx hb) h
theorem wpList_store22 {ops : Array Oper} {rest : List Oper} {op : Oper} {a : Act} {w : World} {Q : Exit → Act → World → Prop} (hgd : op.guard = none) (x y : Operand) (ho : op.op = .store 22 x y) (g : Nat) (u : Value) (D : Option Addr) (m c : Nat) (hx : a.eval x = .pointer (some ⟨g, 0, none⟩)) (hy : a.eval y = .slice D m c) (hb : Blk w g 22 [u])
    (h : ∀ w', Hid (Blk w' g 22 [.slice D m c]) → Hid (Only g w w') → wpList Try.prog ops Q rest (a.put op.dst undef) w') : wpList Try.prog ops Q (op :: rest) a w := by
  refine wpList_plain hgd fun K hK => ?_
  unfold Oper.wp
  rw [exec_store22 x y ho g u D m c hx hy hb]
  exact hK _ _ (h _ (Lib.hid (hb.set 0 (.slice D m c))) (Lib.hid (Only.set g 0 w (.slice D m c))))
set_option maxRecDepth 100000 in
set_option maxHeartbeats 4000000 in
theorem told_is (k : Ky) (v : Vl) (g8 g7 : Nat) (q : Int) (w0 : World) (out : List Am) (b : Bool) (w : World) (hk : k.Ok) (hv : v.Ok) (h8 : g8 < w0.heap.size) (h7 : Blk w0 g7 3 [.int .i64 q]) (hne : g7 ≠ g8) (hm : MM g8 w0.heap.size w0 out w) (hl : out.length ≤ 5000) (hb : Hid (decide (((out.length + 1 : Nat) : Int) < q) = b)) :
    Calls Try.prog 25 #[.agg k.cells.toArray, .agg v.cells.toArray, .pointer (some ⟨g8, 0, none⟩), .pointer (some ⟨g7, 0, none⟩)] w fun e w' => e = .returned (.bool b) ∧ MM g8 w0.heap.size w0 (out ++ [⟨k, v⟩]) w' := by
  obtain ⟨D, m, c, h1, h2, h3⟩ := hm
  have QB := Lib.hid (step_ (new_below w (.cells k.cells.toArray 28)) (new_below _ (.cells v.cells.toArray 32)))
  have K4 := Lib.hid ((blk_alloc w 28 k.cells).alloc (.cells v.cells.toArray 32))
  have K5 := Lib.hid (blk2 w (.cells k.cells.toArray 28) 32 v.cells)
  have G8 := Lib.hid (h1.below QB.out)
  have OW := Lib.hid (h2.below QB.out)
  have ON := Lib.hid (h3.trans (Only.of_below QB.out))
  have HK := Lib.hid hk
  have HV := Lib.hid hv
  have H8 := Lib.hid h8
  have H7 := Lib.hid h7
  have HL := Lib.hid hl
  have HNE := Lib.hid hne
  have SZ := Lib.hid (show w0.heap.size ≤ w.heap.size from h3.size)
  clear h1 h2 h3 hk hv h8 h7 hl hne
  go_enter Try.func25, Try.ntmps25
  go_wp2_with (first
    | refine wpList_load22 rfl _ rfl g8 D m c rfl G8.out ?_
    | refine wpList_load_ky rfl _ rfl w.heap.size 0 k rfl K4.out.range HK.out.ml ?_
    | refine wpList_load_vl rfl _ rfl (w.heap.size + 1) 0 v rfl K5.out.range HV.out.tl ?_
    | refine wpList_val rfl _ (exec_build 46 _ rfl [(0, .agg k.cells.toArray), (1, .agg v.cells.toArray)] rfl _ (built46 k v HK.out.ml HV.out.tl)) ?_
    | (refine wpList_one46 rfl _ rfl ⟨k, v⟩ rfl ⟨HK.out, HV.out⟩ ?_; intro g4 w4 e4 N4 B4)
    | (refine wpList_app rfl _ _ rfl w0.heap.size _ out ⟨k, v⟩ g4 rfl rfl (OW.out.below B4.out) ⟨HK.out, HV.out⟩ N4.out HL.out (Nat.le_trans SZ.out (Nat.le_trans QB.out.size B4.out.size)) ?_; intro D5 m5 c5 w5 e5 O5 B5 G5; have G9 := Lib.hid ((G8.out.below B4.out).upto B5.out H8.out); have P5 := Lib.hid (only_below (ON.out.trans (Only.of_below B4.out)) B5.out (Nat.le_refl _)))
    | (refine wpList_store22 rfl _ _ rfl g8 _ D5 m5 c5 rfl rfl G9.out ?_; intro w6 N6 O6; have c6 := N6.out.cell (i := 0) rfl; have c7 := ((H7.out.only P5.out HNE.out).only O6.out HNE.out).cell (i := 0) rfl; have HB := Lib.hid (show decide ((m5 : Int) < q) = b by rw [e5.out]; exact hb.out)))
  go_ret
  exact ⟨ret_bool HB.out, D5, m5, c5, N6.out, O5.out.only O6.out (.inr (fun k e h9 => (O5.out.ge (i := g8) H8.out) (h9 ▸ e))), P5.out.trans O6.out⟩
theorem take_max {s : List Am} {j m : Nat} {q : Int} (hs : s.length = m) (h : j = 0 ∨ (j : Int) < q) (he : j = m) : s.take j = s.take (max q 1).toNat := by
  rw [List.take_of_length_le (by omega), List.take_of_length_le (by omega)]
theorem take_stop {s : List Am} {j : Nat} {q : Int} (h : j = 0 ∨ (j : Int) < q) (hb : ¬ (((j + 1 : Nat) : Int) < q)) : s.take (j + 1) = s.take (max q 1).toNat := by
  rw [show (max q 1).toNat = j + 1 by omega]
set_option maxRecDepth 100000 in
set_option maxHeartbeats 4000000 in
theorem run_each (Bs g8 g7 : Nat) (D : Option Addr) (m c : Nat) (s : List Am) (q : Int) (w0 : World) (hm : m ≤ 1000) (hB : Blk w0 Bs 22 [.slice D m c]) (hR : RowV w0 D m c s) (h8 : Blk w0 g8 22 [.slice none 0 0]) (h7 : Blk w0 g7 3 [.int .i64 q]) (hne : Bs ≠ g8) :
    Calls Try.prog 41 #[.func (.func 25) #[] #[.pointer (some ⟨g8, 0, none⟩), .pointer (some ⟨g7, 0, none⟩)], .pointer (some ⟨Bs, 0, none⟩)] w0 fun e w' => (∃ v, e = .returned v) ∧ MM g8 w0.heap.size w0 (s.take (max q 1).toNat) w' := by
  have hz := zero32
  have c0 := hB.cell (i := 0) rfl
  have HR := Lib.hid hR
  have H8 := Lib.hid h8
  have H7 := Lib.hid h7
  have HM := Lib.hid hm
  have NE := Lib.hid (show g7 ≠ g8 by
    rintro rfl
    have e1 := h8.symm.trans h7
    simp only [Option.some.injEq, Obj.cells.injEq] at e1
    exact absurd e1.2.1 (by decide))
  clear hB hR h8 h7 hne
  go_enter Try.func41, Try.ntmps41
  go_wp2_with fail
  go_loopw [7] (fun i wr => ∃ (j : Nat), j ≤ m ∧ i = .int .i64 j ∧ MM g8 w0.heap.size w0 (s.take j) wr ∧ (j = 0 ∨ (j : Int) < q)) (fun i _ => (m - (intOf i).toNat))
  case atStart => exact ⟨0, Nat.zero_le _, rfl, ⟨none, 0, 0, H8.out, ownR_nil _ _, Only.refl _ _⟩, .inl rfl⟩
  case round =>
    obtain ⟨j, hj, rfl, hJ, hq⟩ := hrel
    have HJ := Lib.hid hJ
    have HQ := Lib.hid hq
    have HR' := Lib.hid (show RowV wr D m c s by obtain ⟨_, _, _, _, _, h3⟩ := hJ; exact HR.out.only h3 H8.out)
    clear hJ hq
    by_cases hlt : j < m
    · obtain ⟨G, p, hE⟩ := HR'.out.elem j hlt
      have E := Lib.hid hE
      have TK := Lib.hid (take_getD (l := s) (j := j) (by have := HR'.out.len; omega))
      have LN := Lib.hid (show (s.take j).length = j by rw [List.length_take, HR.out.len]; omega)
      obtain ⟨x, hx⟩ : ∃ x, s.getD j azero = x := ⟨_, rfl⟩
      rw [hx] at E TK
      clear hE hx
      have Z := Lib.hid (blk_alloc wr 46 azero.cells)
      go_wp2_with (first
        | refine wpList_index rfl _ _ rfl D m c G p j x _ rfl rfl (by first | rfl | omega) E.out ?_
        | refine wpList_load_amx rfl _ rfl G p x rfl E.out.rg E.out.ok ?_
        | (refine wpList_store_am rfl _ _ rfl wr.heap.size azero x rfl rfl Z.out azero_ok E.out.ok ?_; intro w2 N2 O2)
        | refine wpList_load_ky rfl _ rfl wr.heap.size 0 x.k rfl N2.out.ak E.out.ok.k.ml ?_
        | refine wpList_load_vl rfl _ rfl wr.heap.size 12 x.v rfl (N2.out.av E.out.ok) E.out.ok.v.tl ?_)
      have M2 := Lib.hid (show MM g8 w0.heap.size w0 (s.take j) w2 by
        obtain ⟨D1, m1, c1, a1, a2, a3⟩ := HJ.out
        exact ⟨D1, m1, c1, a1.below (box_below O2.out), a2.below (box_below O2.out), a3.trans (Only.of_below (box_below O2.out))⟩)
      by_cases hbq : ((j + 1 : Nat) : Int) < q
      · have HB := Lib.hid (show decide ((((s.take j).length + 1 : Nat) : Int) < q) = true by rw [LN.out]; exact decide_eq_true hbq)
        refine (told_is x.k x.v g8 g7 q w0 (s.take j) true _ E.out.ok.k E.out.ok.v H8.out.lt H7.out NE.out M2.out (by rw [LN.out]; have := HM.out; omega) HB).mono ?_
        rintro e w3 ⟨rfl, m3⟩
        have M3 := Lib.hid m3
        have HBQ := Lib.hid hbq
        clear m3 hbq
        go_wp2_with fail
        go_roundw
        case rel => exact ⟨j + 1, by omega, by go_num, by rw [TK.out]; exact M3.out, .inr HBQ.out⟩
        case measure => simp [intOf]; omega
      · have HB := Lib.hid (show decide ((((s.take j).length + 1 : Nat) : Int) < q) = false by rw [LN.out]; exact decide_eq_false hbq)
        refine (told_is x.k x.v g8 g7 q w0 (s.take j) false _ E.out.ok.k E.out.ok.v H8.out.lt H7.out NE.out M2.out (by rw [LN.out]; have := HM.out; omega) HB).mono ?_
        rintro e w3 ⟨rfl, m3⟩
        have M3 := Lib.hid m3
        have HBQ := Lib.hid hbq
        clear m3 hbq
        go_wp2_with fail
        refine bodyPost_ret (results_none rfl _ _ _) rfl ?_
        exact ⟨⟨_, rfl⟩, by rw [← take_stop HQ.out (by have := HBQ.out; omega), TK.out]; exact M3.out⟩
    · obtain rfl : j = m := by omega
      go_wp2_with fail
      go_end0
      exact ⟨⟨_, rfl⟩, by rw [← take_max HR.out.len HQ.out rfl]; exact HJ.out⟩
end Go.Proofs.Ytkphpicfgpgkkaa
