/- The contract of read of package wire at a name; the contracts of Num, Byte, Name and Bytes of a cursor. -/
import Derived.Test.YteggjihhjdeieaaGreatReads
namespace Go.Proofs.YteggjihhjdeieaaGreat
open Go.RowKit

theorem At.alloc {w : World} {g : Nat} {l : List Int} (h : At w g l) (o : Obj) : At (w.alloc o) g l := h.below ((Below.refl _ _).alloc (Nat.le_refl _) _)
theorem At.set {w : World} {g x i : Nat} {l : List Int} (h : At w g l) (v : Value) (hn : g ≠ x) : At (w.setCell ⟨x, i, none⟩ v) g l := h.only (Only.set x i w v) hn
theorem results_one {fn : Func} {p : Tmp} (h : fn.results = #[.cell p 24]) (tmps : Array Value) (w : World) (g : Nat) (l : List Int) (hp : tmps.getD p undef = .pointer (some ⟨g, 0, none⟩)) (hat : At w g l) (hl : l.length = 8) :
    (results fn tmps).run Tryz.prog w = .ok (.agg (nm l)) w := results_cell_row h _ _ g 24 (nm l) (0, 0) _ hp hat Tryz.underlying24 rfl (size23n hl)
theorem BytesIn.alloc {R : Option Nat} {w : World} {v : Value} {l : List Int} (h : BytesIn R w v l) (o : Obj) : BytesIn R (w.alloc o) v l := h.below ((Below.refl _ _).alloc (Nat.le_refl _) _)
theorem two_new (w : World) (o : Obj) : At ((w.alloc o).alloc (.cells (nm M.zero8) 24)) (w.heap.size + 1) M.zero8 := two_last w o M.zero8
theorem alloc_size (w : World) (o : Obj) : (w.alloc o).heap.size = w.heap.size + 1 := by simp

set_option maxRecDepth 100000 in
theorem readN_spent (g : Nat) (R : Option Nat) (e : Int) (v f : Value) (l : List Int) (w : World) (h : Cur w g R e v l) (he : e ≠ 0) :
    Calls Tryz.prog 88 #[.pointer (some ⟨g, 0, none⟩), f] w fun r w' => r = .returned (.agg (nm M.zero8)) ∧ Cur w' g R e v l ∧ Only g w w' := by
  have hz := zero23
  have HF := Lib.hid (h.far (Nat.le_refl _))
  have HC := Lib.hid ((h.alloc (.cells (nm M.zero8) 24)).alloc (.cells (nm M.zero8) 24))
  have A4 := Lib.hid ((at_new w).alloc (.cells (nm M.zero8) 24))
  have A5 := Lib.hid (two_new w (.cells (nm M.zero8) 24))
  clear h
  go_enter Tryz.func88, Tryz.ntmps88
  go_wp2_with fail
  refine (err_is g e v _ HC.out.1).mono ?_
  rintro r w' ⟨rfl, rfl⟩
  go_wp2_with (first
    | refine wpList_load_name rfl _ rfl (w.heap.size + 1) M.zero8 rfl A5.out rfl ?_
    | (refine wpList_put_name rfl _ _ rfl w.heap.size M.zero8 M.zero8 rfl rfl A4.out rfl rfl ?_; intro w2 A2 O2))
  refine bodyPost_ret (results_one rfl _ _ w.heap.size M.zero8 rfl A2.out rfl) rfl ?_
  exact ⟨rfl, HC.out.only O2.out HF.out.1 HF.out.2, (((Only.refl g w).alloc _).alloc _).new O2.out (Nat.le_refl _)⟩
set_option maxRecDepth 100000 in
theorem readN_none (f : Value) (w : World) : Calls Tryz.prog 88 #[.pointer none, f] w fun r w' => r = .returned (.agg (nm M.zero8)) ∧ Below w.heap.size w w' := by
  have hz := zero23
  have A4 := Lib.hid ((at_new w).alloc (.cells (nm M.zero8) 24))
  have A5 := Lib.hid (two_new w (.cells (nm M.zero8) 24))
  go_enter Tryz.func88, Tryz.ntmps88
  go_wp2_with fail
  refine (err_nil _).mono ?_
  rintro r w' ⟨rfl, rfl⟩
  go_wp2_with (first
    | refine wpList_load_name rfl _ rfl (w.heap.size + 1) M.zero8 rfl A5.out rfl ?_
    | (refine wpList_put_name rfl _ _ rfl w.heap.size M.zero8 M.zero8 rfl rfl A4.out rfl rfl ?_; intro w2 A2 O2))
  refine bodyPost_ret (results_one rfl _ _ w.heap.size M.zero8 rfl A2.out rfl) rfl ?_
  exact ⟨rfl, (((Only.refl w.heap.size w).alloc _).alloc _).trans O2.out |>.below (Nat.le_refl _) (Nat.le_refl _)⟩
set_option maxRecDepth 100000 in
theorem readN_got (g : Nat) (R : Option Nat) (v : Value) (l m rest : List Int) (w : World) (h : Cur w g R 0 v l) (hrl : rest.length ≤ 30000) (hm : m.length = 8) (hcall : Hid (∀ w', Cur w' g R 0 v l → Calls Tryz.prog 89 #[.pointer (some ⟨g, 0, none⟩)] w' (NameGot w' g R m rest))) :
    Calls Tryz.prog 88 #[.pointer (some ⟨g, 0, none⟩), .func (.func 89) #[] #[]] w fun r w' => r = .returned (.agg (nm m)) ∧ CurAt w' g R 0 rest ∧ Only g w w' := by
  have hz := zero23
  have HM := Lib.hid hm
  have HF := Lib.hid (h.far (Nat.le_refl _))
  have c1 := ((h.1.alloc (.cells (nm M.zero8) 24)).alloc (.cells (nm M.zero8) 24)).cell (i := 1) rfl
  have HC := Lib.hid ((h.alloc (.cells (nm M.zero8) 24)).alloc (.cells (nm M.zero8) 24))
  have A4 := Lib.hid ((at_new w).alloc (.cells (nm M.zero8) 24))
  clear h hm
  go_enter Tryz.func88, Tryz.ntmps88
  go_wp2_with fail
  refine (err_is g 0 v _ HC.out.1).mono ?_
  rintro r w' ⟨rfl, rfl⟩
  go_wp2_with fail
  refine (hcall.out _ HC.out).mono ?_
  rintro r w1 ⟨rfl, ⟨v1, h1⟩, ho1⟩
  have F1 := Lib.hid (h1.far (Nat.le_refl _))
  have C1 := Lib.hid (h1.alloc (.cells (nm M.zero8) 24))
  have O1 := Lib.hid ((((Only.refl g w).alloc (.cells (nm M.zero8) 24)).alloc (.cells (nm M.zero8) 24)).trans ho1)
  have B4 := Lib.hid ((A4.out.only ho1 HF.out.1.symm).alloc (.cells (nm M.zero8) 24))
  have A7 := Lib.hid (at_new w1)
  have S1 := Lib.hid (Nat.ne_of_lt (A4.out.only ho1 HF.out.1.symm).lt)
  have S2 := Lib.hid O1.out.size
  clear h1 ho1 HC A4
  go_wp2_with (first
    | (refine wpList_put_name rfl _ _ rfl w1.heap.size M.zero8 m rfl rfl A7.out rfl HM.out ?_; intro w2 A2 O2; have E4 := Lib.hid (B4.out.only O2.out S1.out))
    | refine wpList_load_name rfl _ rfl w1.heap.size m rfl A2.out HM.out ?_
    | (refine wpList_put_name rfl _ _ rfl w.heap.size M.zero8 m rfl rfl E4.out rfl HM.out ?_; intro w3 A3 O3))
  refine bodyPost_ret (results_one rfl _ _ w.heap.size m rfl A3.out HM.out) rfl ?_
  exact ⟨rfl, curAt_ok ((C1.out.only O2.out F1.out.1 F1.out.2).only O3.out HF.out.1 HF.out.2) hrl, ((O1.out.alloc _).new O2.out S2.out).new O3.out (Nat.le_refl _)⟩
set_option maxRecDepth 100000 in
theorem readN_bad (g : Nat) (R : Option Nat) (e : Int) (v : Value) (l : List Int) (w : World) (h : Cur w g R 0 v l) (hl : l.length ≤ 30000) (he : e ≠ 0) (hcall : Hid (∀ w', Cur w' g R 0 v l → Calls Tryz.prog 89 #[.pointer (some ⟨g, 0, none⟩)] w' (NameBad w' g R e))) :
    Calls Tryz.prog 88 #[.pointer (some ⟨g, 0, none⟩), .func (.func 89) #[] #[]] w fun r w' => r = .returned (.agg (nm M.zero8)) ∧ CurAt w' g R e [] ∧ Only g w w' := by
  have hz := zero23
  have HF := Lib.hid (h.far (Nat.le_refl _))
  have HF5 := Lib.hid (h.far (Nat.le_succ _))
  have c1 := ((h.1.alloc (.cells (nm M.zero8) 24)).alloc (.cells (nm M.zero8) 24)).cell (i := 1) rfl
  have HC := Lib.hid ((h.alloc (.cells (nm M.zero8) 24)).alloc (.cells (nm M.zero8) 24))
  have A4 := Lib.hid ((at_new w).alloc (.cells (nm M.zero8) 24))
  have A5 := Lib.hid (two_new w (.cells (nm M.zero8) 24))
  obtain ⟨a, cap, rfl⟩ := h.parts
  clear h
  go_enter Tryz.func88, Tryz.ntmps88
  go_wp2_with fail
  refine (err_is g 0 _ _ HC.out.1).mono ?_
  rintro r w' ⟨rfl, rfl⟩
  go_wp2_with fail
  refine (hcall.out _ HC.out).mono ?_
  rintro r w1 ⟨m, hm, rfl, ⟨v1, l1, h1⟩, ho1⟩
  have HM := Lib.hid hm
  have F1 := Lib.hid (h1.far (Nat.le_refl _))
  have C1 := Lib.hid (h1.alloc (.cells (nm M.zero8) 24))
  have D1 := Lib.hid ((HC.out.2.1.only ho1 h1.2.2.1).alloc (.cells (nm M.zero8) 24))
  have O1 := Lib.hid ((((Only.refl g w).alloc (.cells (nm M.zero8) 24)).alloc (.cells (nm M.zero8) 24)).trans ho1)
  have B4 := Lib.hid ((A4.out.only ho1 HF.out.1.symm).alloc (.cells (nm M.zero8) 24))
  have B5 := Lib.hid ((A5.out.only ho1 HF5.out.1.symm).alloc (.cells (nm M.zero8) 24))
  have A7 := Lib.hid (at_new w1)
  have S1 := Lib.hid (Nat.ne_of_lt (A4.out.only ho1 HF.out.1.symm).lt)
  have S5 := Lib.hid (Nat.ne_of_lt (A5.out.only ho1 HF5.out.1.symm).lt)
  have S2 := Lib.hid O1.out.size
  clear h1 ho1 HC A4 A5 hm
  go_wp2_with ((refine wpList_put_name rfl _ _ rfl w1.heap.size M.zero8 m rfl rfl A7.out rfl HM.out ?_; intro w2 A2 O2; have E4 := Lib.hid (B4.out.only O2.out S1.out); have E5 := Lib.hid (B5.out.only O2.out S5.out); have C2 := Lib.hid (C1.out.only O2.out F1.out.1 F1.out.2); have d2 := C2.out.1.cell (i := 1) rfl; have f2 := C2.out.1.frozen 1; have C3 := Lib.hid (cur_set C2.out (D1.out.only O2.out F1.out.2))))
  refine (keep_is g 0 e _ _ C3.out.1).mono ?_
  rintro r w3 ⟨⟨x2, rfl⟩, hb3, ho3⟩
  have C4 := Lib.hid (kept_cur C3.out hb3 ho3)
  have O4 := Lib.hid ((((O1.out.alloc _).new O2.out S2.out).setCell 1 _).trans ho3)
  have G4 := Lib.hid ((E4.out.set (i := 1) (.slice a l.length cap) HF.out.1.symm).only ho3 HF.out.1.symm)
  have G5 := Lib.hid ((E5.out.set (i := 1) (.slice a l.length cap) HF5.out.1.symm).only ho3 HF5.out.1.symm)
  clear hb3 ho3 d2 f2
  go_wp2_with (first
    | refine wpList_load_name rfl _ rfl (w.heap.size + 1) M.zero8 rfl G5.out rfl ?_
    | (refine wpList_put_name rfl _ _ rfl w.heap.size M.zero8 M.zero8 rfl rfl G4.out rfl rfl ?_; intro w5 A8 O5))
  refine bodyPost_ret (results_one rfl _ _ w.heap.size M.zero8 rfl A8.out rfl) rfl ?_
  exact ⟨rfl, curAt_bad (C4.out.only O5.out HF.out.1 HF.out.2) hl he, O4.out.new O5.out (Nat.le_refl _)⟩
end Go.Proofs.YteggjihhjdeieaaGreat
