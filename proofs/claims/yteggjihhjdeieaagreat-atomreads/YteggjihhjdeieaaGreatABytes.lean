/- The contract of Write of package atom. The contracts of encoding, Bytes and Size of package atom, and of alive. The contracts of need, readVal and Read of package atom. -/
import Derived.Test.YteggjihhjdeieaaGreatAtoms
import Derived.Test.YteggjihhjdeieaaGreatWriterK
namespace Go.Proofs.YteggjihhjdeieaaGreat
open Go.RowKit

theorem aenc1 {a : Am} (h : a.k.s = 1) : aenc a = kenc a.k ++ [a.v.n] := by unfold aenc venc; rw [if_pos h]
theorem aenc4 {a : Am} (h : a.k.s = 4) : aenc a = kenc a.k ++ (M.var a.v.n ++ (((M.text a.v.t).length : Int) :: M.text a.v.t)) := by unfold aenc venc; rw [if_neg (by omega), if_pos h]
theorem aenc2 {a : Am} (h1 : ¬ a.k.s = 1) (h4 : ¬ a.k.s = 4) : aenc a = kenc a.k ++ M.var a.v.n := by unfold aenc venc; rw [if_neg h1, if_neg h4]
set_option maxRecDepth 100000 in
theorem awrite1 (g : Nat) (acc : List Int) (a : Am) (w : World) (h : WrAt w g acc) (ha : a.Ok) (hn : acc.length + 60 ≤ 30000) (hs : a.k.s = 1) (hx : a.v.n < 256) :
    Calls Tryz.prog 34 #[.pointer (some ⟨g, 0, none⟩), .agg a.cells.toArray] w (WroteK w g (acc ++ aenc a)) := by
  have Q0 := Lib.hid (blk_alloc w 32 a.cells)
  have B0 := Lib.hid (new_below w (.cells a.cells.toArray 32))
  have HL := Lib.hid h.lt
  have HW := Lib.hid (h.below B0.out)
  have HA := Lib.hid ha
  have NE := Lib.hid (show w.heap.size ≠ g from fun e => Nat.lt_irrefl _ (e ▸ h.lt))
  have KL := Lib.hid (kenc_len ha.k)
  have VN := Lib.hid (M.var_ten a.v.n ha.v.n0 ha.v.n1)
  have n0 := ha.v.n0
  have HS := Lib.hid hs
  have wx : IntKind.u8.wrap a.v.n = a.v.n := by rw [IntKind.wrap_u8]; omega
  clear h ha hs
  go_enter Tryz.func34, Tryz.ntmps34
  go_wp2_with (refine wpList_load_ky rfl _ rfl w.heap.size 0 a.k rfl Q0.out.ak HA.out.k.ml ?_)
  refine (kwrite_is g acc a.k _ HW.out HA.out.k (by omega)).mono ?_
  rintro r w1 ⟨⟨y, rfl⟩, hw1, hb1, hk1⟩
  have H1 := Lib.hid hw1
  have Q1 := Lib.hid (hk1 _ _ _ (by decide) NE.out Q0.out)
  have B1 := Lib.hid (below_step B0.out hb1 (Nat.le_of_lt HL.out))
  have K1 := Lib.hid ((KeepT.of_below B0.out).trans hk1)
  have b0 := Q1.out.cell (ac0 a)
  rw [HS.out] at b0
  have b12 := Q1.out.cell (ac12 HA.out)
  clear hw1 hb1 hk1
  go_wp2_with fail
  refine (wbyteK_is g (acc ++ kenc a.k) a.v.n _ H1.out n0 hx (by have := KL.out; simp; omega)).mono ?_
  rintro r w2 ⟨⟨y, rfl⟩, hw2, hb2, hk2⟩
  have H2 := Lib.hid hw2
  have B2 := Lib.hid (B1.out.trans hb2)
  have K2 := Lib.hid (K1.out.trans hk2)
  clear hw2 hb2 hk2
  go_wp2_with fail
  go_end0
  exact ⟨⟨_, rfl⟩, by rw [aenc1 HS.out, ← List.append_assoc]; exact H2.out, B2.out, K2.out⟩
set_option maxRecDepth 100000 in
theorem awrite2 (g : Nat) (acc : List Int) (a : Am) (w : World) (h : WrAt w g acc) (ha : a.Ok) (hn : acc.length + 60 ≤ 30000) (hs : a.k.s = 2) :
    Calls Tryz.prog 34 #[.pointer (some ⟨g, 0, none⟩), .agg a.cells.toArray] w (WroteK w g (acc ++ aenc a)) := by
  have Q0 := Lib.hid (blk_alloc w 32 a.cells)
  have B0 := Lib.hid (new_below w (.cells a.cells.toArray 32))
  have HL := Lib.hid h.lt
  have HW := Lib.hid (h.below B0.out)
  have HA := Lib.hid ha
  have NE := Lib.hid (show w.heap.size ≠ g from fun e => Nat.lt_irrefl _ (e ▸ h.lt))
  have KL := Lib.hid (kenc_len ha.k)
  have VN := Lib.hid (M.var_ten a.v.n ha.v.n0 ha.v.n1)
  have n0 := ha.v.n0
  have HS := Lib.hid hs
  clear h ha hs
  go_enter Tryz.func34, Tryz.ntmps34
  go_wp2_with (refine wpList_load_ky rfl _ rfl w.heap.size 0 a.k rfl Q0.out.ak HA.out.k.ml ?_)
  refine (kwrite_is g acc a.k _ HW.out HA.out.k (by omega)).mono ?_
  rintro r w1 ⟨⟨y, rfl⟩, hw1, hb1, hk1⟩
  have H1 := Lib.hid hw1
  have Q1 := Lib.hid (hk1 _ _ _ (by decide) NE.out Q0.out)
  have B1 := Lib.hid (below_step B0.out hb1 (Nat.le_of_lt HL.out))
  have K1 := Lib.hid ((KeepT.of_below B0.out).trans hk1)
  have b0 := Q1.out.cell (ac0 a)
  rw [HS.out] at b0
  have b12 := Q1.out.cell (ac12 HA.out)
  clear hw1 hb1 hk1
  go_wp2_with fail
  refine (wnumK_is g (acc ++ kenc a.k) a.v.n _ H1.out n0 HA.out.v.n1 (by have := KL.out; simp; omega)).mono ?_
  rintro r w2 ⟨⟨y, rfl⟩, hw2, hb2, hk2⟩
  have H2 := Lib.hid hw2
  have Q2 := Lib.hid (hk2 _ _ _ (by decide) NE.out Q1.out)
  have B2 := Lib.hid (B1.out.trans hb2)
  have K2 := Lib.hid (K1.out.trans hk2)
  clear hw2 hb2 hk2 b0 b12
  go_wp2_with fail
  go_end0
  exact ⟨⟨_, rfl⟩, by rw [aenc2 (by have := HS.out; omega) (by have := HS.out; omega), ← List.append_assoc]; exact H2.out, B2.out, K2.out⟩
set_option maxRecDepth 100000 in
theorem awrite3 (g : Nat) (acc : List Int) (a : Am) (w : World) (h : WrAt w g acc) (ha : a.Ok) (hn : acc.length + 60 ≤ 30000) (hs : a.k.s = 3) :
    Calls Tryz.prog 34 #[.pointer (some ⟨g, 0, none⟩), .agg a.cells.toArray] w (WroteK w g (acc ++ aenc a)) := by
  have Q0 := Lib.hid (blk_alloc w 32 a.cells)
  have B0 := Lib.hid (new_below w (.cells a.cells.toArray 32))
  have HL := Lib.hid h.lt
  have HW := Lib.hid (h.below B0.out)
  have HA := Lib.hid ha
  have NE := Lib.hid (show w.heap.size ≠ g from fun e => Nat.lt_irrefl _ (e ▸ h.lt))
  have KL := Lib.hid (kenc_len ha.k)
  have VN := Lib.hid (M.var_ten a.v.n ha.v.n0 ha.v.n1)
  have n0 := ha.v.n0
  have HS := Lib.hid hs
  clear h ha hs
  go_enter Tryz.func34, Tryz.ntmps34
  go_wp2_with (refine wpList_load_ky rfl _ rfl w.heap.size 0 a.k rfl Q0.out.ak HA.out.k.ml ?_)
  refine (kwrite_is g acc a.k _ HW.out HA.out.k (by omega)).mono ?_
  rintro r w1 ⟨⟨y, rfl⟩, hw1, hb1, hk1⟩
  have H1 := Lib.hid hw1
  have Q1 := Lib.hid (hk1 _ _ _ (by decide) NE.out Q0.out)
  have B1 := Lib.hid (below_step B0.out hb1 (Nat.le_of_lt HL.out))
  have K1 := Lib.hid ((KeepT.of_below B0.out).trans hk1)
  have b0 := Q1.out.cell (ac0 a)
  rw [HS.out] at b0
  have b12 := Q1.out.cell (ac12 HA.out)
  clear hw1 hb1 hk1
  go_wp2_with fail
  refine (wnumK_is g (acc ++ kenc a.k) a.v.n _ H1.out n0 HA.out.v.n1 (by have := KL.out; simp; omega)).mono ?_
  rintro r w2 ⟨⟨y, rfl⟩, hw2, hb2, hk2⟩
  have H2 := Lib.hid hw2
  have Q2 := Lib.hid (hk2 _ _ _ (by decide) NE.out Q1.out)
  have B2 := Lib.hid (B1.out.trans hb2)
  have K2 := Lib.hid (K1.out.trans hk2)
  clear hw2 hb2 hk2 b0 b12
  go_wp2_with fail
  go_end0
  exact ⟨⟨_, rfl⟩, by rw [aenc2 (by have := HS.out; omega) (by have := HS.out; omega), ← List.append_assoc]; exact H2.out, B2.out, K2.out⟩
set_option maxRecDepth 100000 in
theorem awrite4 (g : Nat) (acc : List Int) (a : Am) (w : World) (h : WrAt w g acc) (ha : a.Ok) (hn : acc.length + 60 ≤ 30000) (hs : a.k.s = 4) :
    Calls Tryz.prog 34 #[.pointer (some ⟨g, 0, none⟩), .agg a.cells.toArray] w (WroteK w g (acc ++ aenc a)) := by
  have Q0 := Lib.hid (blk_alloc w 32 a.cells)
  have B0 := Lib.hid (new_below w (.cells a.cells.toArray 32))
  have HL := Lib.hid h.lt
  have HW := Lib.hid (h.below B0.out)
  have HA := Lib.hid ha
  have NE := Lib.hid (show w.heap.size ≠ g from fun e => Nat.lt_irrefl _ (e ▸ h.lt))
  have KL := Lib.hid (kenc_len ha.k)
  have VN := Lib.hid (M.var_ten a.v.n ha.v.n0 ha.v.n1)
  have n0 := ha.v.n0
  have HS := Lib.hid hs
  clear h ha hs
  go_enter Tryz.func34, Tryz.ntmps34
  go_wp2_with (refine wpList_load_ky rfl _ rfl w.heap.size 0 a.k rfl Q0.out.ak HA.out.k.ml ?_)
  refine (kwrite_is g acc a.k _ HW.out HA.out.k (by omega)).mono ?_
  rintro r w1 ⟨⟨y, rfl⟩, hw1, hb1, hk1⟩
  have H1 := Lib.hid hw1
  have Q1 := Lib.hid (hk1 _ _ _ (by decide) NE.out Q0.out)
  have B1 := Lib.hid (below_step B0.out hb1 (Nat.le_of_lt HL.out))
  have K1 := Lib.hid ((KeepT.of_below B0.out).trans hk1)
  have b0 := Q1.out.cell (ac0 a)
  rw [HS.out] at b0
  have b12 := Q1.out.cell (ac12 HA.out)
  clear hw1 hb1 hk1
  go_wp2_with fail
  refine (wnumK_is g (acc ++ kenc a.k) a.v.n _ H1.out n0 HA.out.v.n1 (by have := KL.out; simp; omega)).mono ?_
  rintro r w2 ⟨⟨y, rfl⟩, hw2, hb2, hk2⟩
  have H2 := Lib.hid hw2
  have Q2 := Lib.hid (hk2 _ _ _ (by decide) NE.out Q1.out)
  have B2 := Lib.hid (B1.out.trans hb2)
  have K2 := Lib.hid (K1.out.trans hk2)
  clear hw2 hb2 hk2 b0 b12
  go_wp2_with (refine wpList_load_nm rfl _ rfl w.heap.size 13 a.v.t rfl (Q2.out.avt HA.out) HA.out.v.tl ?_)
  refine (wnameK_is g (acc ++ kenc a.k ++ M.var a.v.n) a.v.t _ H2.out HA.out.v.tl HA.out.v.tb (by have := KL.out; have := VN.out; simp; omega)).mono ?_
  rintro r w3 ⟨⟨y, rfl⟩, hw3, hb3, hk3⟩
  have H3 := Lib.hid hw3
  have B3 := Lib.hid (B2.out.trans hb3)
  have K3 := Lib.hid (K2.out.trans hk3)
  clear hw3 hb3 hk3
  go_wp2_with fail
  go_end0
  exact ⟨⟨_, rfl⟩, by rw [aenc4 HS.out]; simpa only [List.append_assoc] using H3.out, B3.out, K3.out⟩
theorem awrite_is (g : Nat) (acc : List Int) (a : Am) (w : World) (h : WrAt w g acc) (ha : a.Ok) (hn : acc.length + 60 ≤ 30000) (hr : a.right = true) :
    Calls Tryz.prog 34 #[.pointer (some ⟨g, 0, none⟩), .agg a.cells.toArray] w (WroteK w g (acc ++ aenc a)) := by
  unfold Am.right at hr
  rw [Bool.and_eq_true] at hr
  rcases right_sort hr.1 with hs | hs | hs | hs
  · have hv := hr.2
    unfold valB at hv
    rw [if_pos hs] at hv
    exact awrite1 g acc a w h ha hn hs (by have := (between_parts hv).2.1; omega)
  · exact awrite2 g acc a w h ha hn hs
  · exact awrite3 g acc a w h ha hn hs
  · exact awrite4 g acc a w h ha hn hs
end Go.Proofs.YteggjihhjdeieaaGreat
namespace Go.Proofs.YteggjihhjdeieaaGreat
open Go.RowKit

set_option maxRecDepth 100000 in
theorem encoding_is (a : Am) (w : World) (ha : a.Ok) : Calls Tryz.prog 17 #[.agg a.cells.toArray] w fun e w' => e = .returned (.func (.func 35) #[.pointer (some ⟨w.heap.size + 1, 0, none⟩)] #[]) ∧ WrAt w' (w.heap.size + 1) (abytes a) ∧ Below w.heap.size w w' := by
  have S0 := Lib.hid (as_new w a)
  have HA := Lib.hid ha
  have hz : (w.alloc (.cells a.cells.toArray 32)).heap.size = w.heap.size + 1 := by simp
  have NW := new_is (w.alloc (.cells a.cells.toArray 32))
  rw [hz] at NW
  have HN := Lib.hid NW
  clear ha hz NW
  cases hr : a.right with
  | false =>
    have HR := Lib.hid hr
    have E := Lib.hid (show abytes a = [] by unfold abytes; rw [hr]; rfl)
    clear hr
    go_enter Tryz.func17, Tryz.ntmps17
    go_wp2_with fail
    refine (HN.out).mono ?_
    rintro e w1 ⟨rfl, hw, hb⟩
    have W1 := Lib.hid hw
    have S1 := Lib.hid (S0.out.below (by rw [show (w.alloc (.cells a.cells.toArray 32)).heap.size = w.heap.size + 1 by simp]; exact hb))
    clear hw hb HN
    go_wp2_with (refine wpList_load_am rfl _ rfl w.heap.size a rfl S1.out.blk HA.out ?_)
    refine (aright_is a false _ HA.out HR).mono ?_
    rintro e w2 ⟨rfl, b2⟩
    have W2 := Lib.hid (W1.out.below b2)
    have S2 := Lib.hid (S1.out.below b2)
    clear b2
    go_wp2_with fail
    go_ret
    exact ⟨rfl, by rw [E.out]; exact W2.out, S2.out.bel⟩
  | true =>
    have HR := Lib.hid hr
    have E := Lib.hid (show abytes a = aenc a by unfold abytes; rw [hr]; rfl)
    clear hr
    go_enter Tryz.func17, Tryz.ntmps17
    go_wp2_with fail
    refine (HN.out).mono ?_
    rintro e w1 ⟨rfl, hw, hb⟩
    have W1 := Lib.hid hw
    have S1 := Lib.hid (S0.out.below (by rw [show (w.alloc (.cells a.cells.toArray 32)).heap.size = w.heap.size + 1 by simp]; exact hb))
    clear hw hb HN
    go_wp2_with (refine wpList_load_am rfl _ rfl w.heap.size a rfl S1.out.blk HA.out ?_)
    refine (aright_is a true _ HA.out HR).mono ?_
    rintro e w2 ⟨rfl, b2⟩
    have W2 := Lib.hid (W1.out.below b2)
    have S2 := Lib.hid (S1.out.below b2)
    clear b2
    go_wp2_with (refine wpList_load_am rfl _ rfl w.heap.size a rfl S2.out.blk HA.out ?_)
    refine (awrite_is (w.heap.size + 1) [] a _ W2.out HA.out (by simp) HR.out).mono ?_
    rintro e w3 ⟨⟨y, rfl⟩, hw, hb, _⟩
    have W3 := Lib.hid hw
    have B3 := Lib.hid (S2.out.bel.trans (hb.mono (Nat.le_succ _)))
    clear hw hb
    go_wp2_with fail
    go_ret
    exact ⟨rfl, by rw [E.out]; exact W3.out, B3.out⟩
set_option maxRecDepth 100000 in
theorem abytes_is (a : Am) (w : World) (ha : a.Ok) : Calls Tryz.prog 6 #[.agg a.cells.toArray] w (GivesBytes w (abytes a)) := by
  have S0 := Lib.hid (as_new w a)
  have HA := Lib.hid ha
  have HL := Lib.hid (abytes_len ha)
  have hz : (w.alloc (.cells a.cells.toArray 32)).heap.size = w.heap.size + 1 := by simp
  have NW := encoding_is a (w.alloc (.cells a.cells.toArray 32)) ha
  rw [hz] at NW
  have HN := Lib.hid NW
  clear ha hz NW
  go_enter Tryz.func6, Tryz.ntmps6
  go_wp2_with (refine wpList_load_am rfl _ rfl w.heap.size a rfl S0.out.blk HA.out ?_)
  refine (HN.out).mono ?_
  rintro e w1 ⟨rfl, hw, hb⟩
  have W1 := Lib.hid hw
  have S1 := Lib.hid (S0.out.below (by rw [show (w.alloc (.cells a.cells.toArray 32)).heap.size = w.heap.size + 1 by simp]; exact hb))
  clear hw hb HN
  go_wp2_with fail
  refine (out_is (w.heap.size + 1 + 1) (abytes a) _ W1.out (by have := HL.out; omega)).mono ?_
  rintro e w2 ⟨v, rfl, hv, hb⟩
  have V2 := Lib.hid hv
  have B2 := Lib.hid (step_ S1.out.bel hb)
  clear hv hb
  go_wp2_with fail
  go_ret
  exact ⟨_, rfl, V2.out, B2.out⟩
set_option maxRecDepth 100000 in
theorem asize_is (a : Am) (n : Nat) (w : World) (ha : a.Ok) (hn : Hid ((abytes a).length = n)) : Calls Tryz.prog 8 #[.agg a.cells.toArray] w fun e w' => e = .returned (.int .i64 n) ∧ Below w.heap.size w w' := by
  have S0 := Lib.hid (as_new w a)
  have HA := Lib.hid ha
  clear ha
  go_enter Tryz.func8, Tryz.ntmps8
  go_wp2_with (refine wpList_load_am rfl _ rfl w.heap.size a rfl S0.out.blk HA.out ?_)
  refine (abytes_is a _ HA.out).mono ?_
  rintro e w1 ⟨v, rfl, hv, hb⟩
  obtain ⟨ad, cap, rfl, _⟩ := hv
  rw [hn.out]
  have S1 := Lib.hid (S0.out.below hb)
  clear hb
  go_wp2_with fail
  go_ret
  exact ⟨rfl, S1.out.bel⟩
/-- The chapter's example. -/
def ex : Am := ⟨⟨1, 1, [97, 0, 0, 0, 0, 0, 0, 0], 2, 3⟩, ⟨1, M.zero8⟩⟩
theorem ex_ok : ex.Ok := by
  refine ⟨⟨rfl, ?_, by decide, by decide, by decide, by decide, by decide, by decide, by decide, by decide⟩, ⟨rfl, zero8_bytes, by decide, by decide⟩⟩
  intro x hx
  simp [ex] at hx
  omega
theorem ex_right : ex.right = true := by decide
theorem ex_bytes : abytes ex = [1, 1, 1, 97, 2, 3, 1] := by
  unfold abytes
  rw [if_pos ex_right]
  unfold aenc kenc
  rw [show M.var ex.k.c = [1] from M.var_lt 1 (by decide) (by decide), show M.var ex.k.q = [3] from M.var_lt 3 (by decide) (by decide)]
  decide
theorem built24_1 (x : Int) : Tryz.prog.built 24 [(0, .int .u8 x)] = some (nm [x, 0, 0, 0, 0, 0, 0, 0]) := by kernel_rfl
theorem bytes_lit (w : World) (l : List Int) (hb : M.Bytes l) : BytesAt (w.alloc (.cells (l.map (Value.int .u8)).toArray 5)) (.slice (some ⟨w.heap.size, 0, none⟩) l.length l.length) l := by
  refine ⟨_, _, rfl, ⟨Nat.le_refl _, fun h => by cases h⟩, hb, fun _ => ⟨w.heap.size, 0, rfl, by simp, fun i hi => ?_⟩⟩
  rw [Nat.zero_add]
  exact (blk_alloc w 5 (l.map (Value.int .u8))).cell (by rw [List.getElem?_map, List.getElem?_eq_getElem hi]; rfl)
theorem ex_list (w : World) : BytesAt (w.alloc (.cells #[.int .u8 1, .int .u8 1, .int .u8 1, .int .u8 97, .int .u8 2, .int .u8 3, .int .u8 1] 5)) (.slice (some ⟨w.heap.size, 0, none⟩) 7 7) [1, 1, 1, 97, 2, 3, 1] :=
  bytes_lit w [1, 1, 1, 97, 2, 3, 1] (fun x hx => by simp at hx; omega)
set_option maxRecDepth 100000 in
theorem alive_is (w : World) : Calls Tryz.prog 4 #[] w fun e w' => e = .returned (.bool true) ∧ Below w.heap.size w w' := by
  have hz := zero32
  have N0 := Lib.hid (blk_alloc w 32 azero.cells)
  have B0 := Lib.hid (new_below w (.cells azero.cells.toArray 32))
  go_enter Tryz.func4, Tryz.ntmps4
  go_wp2_with (first
    | refine wpList_build rfl 24 _ rfl [(0, .int .u8 97)] rfl _ (built24_1 97) ?_
    | refine wpList_build rfl 27 _ rfl [(0, .int .u8 1), (1, .int .u16 1), (2, .agg (nm [97, 0, 0, 0, 0, 0, 0, 0])), (3, .int .u8 2), (4, .int .u32 3)] rfl _ (built27_5 ex.k rfl) ?_
    | refine wpList_build rfl 30 _ rfl [(0, .int .u64 1)] rfl _ (built30_1 1) ?_
    | refine wpList_build rfl 32 _ rfl [(0, .agg ex.k.cells.toArray), (1, .agg ex.v.cells.toArray)] rfl _ (built32_2 ex ex_ok) ?_
    | (refine wpList_store_am rfl _ _ rfl w.heap.size azero ex rfl rfl N0.out azero_ok ex_ok ?_; intro w1 N1 O1)
    | refine wpList_load_am rfl _ rfl w.heap.size ex rfl N1.out ex_ok ?_)
  refine (abytes_is ex _ ex_ok).mono ?_
  rintro e w2 ⟨v, rfl, hv, b2⟩
  rw [ex_bytes] at hv
  have N2 := Lib.hid (N1.out.below b2)
  have B2 := Lib.hid (step_ (B0.out.trans (O1.out.below (Nat.le_refl _) B0.out.size)) b2)
  have V2 := Lib.hid (hv.below (new_below w2 (.cells #[.int .u8 1, .int .u8 1, .int .u8 1, .int .u8 97, .int .u8 2, .int .u8 3, .int .u8 1] 5)))
  have L2 := Lib.hid (ex_list w2)
  obtain ⟨ad, cap, rfl, _⟩ := hv
  clear b2
  go_wp2_with fail
  refine (same_any _ _ [1, 1, 1, 97, 2, 3, 1] _ (by simp) V2.out L2.out).mono ?_
  rintro e w3 ⟨rfl, b3⟩
  have N3 := Lib.hid ((N2.out.alloc (.cells #[.int .u8 1, .int .u8 1, .int .u8 1, .int .u8 97, .int .u8 2, .int .u8 3, .int .u8 1] 5)).below b3)
  have B3 := Lib.hid (step_ (step_ B2.out (new_below w2 (.cells #[.int .u8 1, .int .u8 1, .int .u8 1, .int .u8 97, .int .u8 2, .int .u8 3, .int .u8 1] 5))) b3)
  clear b3
  go_wp2_with (refine wanted_on rfl ?_; refine wpList_load_am rfl _ rfl w.heap.size ex rfl N3.out ex_ok ?_)
  refine (asize_is ex 7 _ ex_ok (Lib.hid (by rw [ex_bytes]; rfl))).mono ?_
  rintro e w4 ⟨rfl, b4⟩
  have N4 := Lib.hid (N3.out.below b4)
  have B4 := Lib.hid (step_ B3.out b4)
  clear b4
  go_wp2_with (refine wanted_on rfl ?_; refine wpList_load_am rfl _ rfl w.heap.size ex rfl N4.out ex_ok ?_)
  refine (aright_is ex true _ ex_ok (Lib.hid ex_right)).mono ?_
  rintro e w5 ⟨rfl, b5⟩
  have B5 := Lib.hid (step_ B4.out b5)
  clear b5
  go_wp2_with fail
  go_ret
  exact ⟨rfl, B5.out⟩
end Go.Proofs.YteggjihhjdeieaaGreat
namespace Go.Proofs.YteggjihhjdeieaaGreat
open Go.RowKit

theorem aneed_is (b : Bool) (x : Int) (g : Nat) (R : Option Nat) (e : Int) (l : List Int) (p : Int × List Int) (w : World) (h : CurAt w g R e l) (hx : x ≠ 0) (hp : Hid (fs b x (e, l) = p)) :
    Calls Tryz.prog 47 #[.bool b, .int .i64 x, failF g] w fun r w' => (∃ y, r = .returned y) ∧ CurAt w' g R p.1 p.2 ∧ Only g w w' := by
  have HC := Lib.hid h
  clear h
  have hp' := hp.out
  subst hp'
  clear hp
  cases b with
  | true =>
    go_enter Tryz.func47, Tryz.ntmps47
    go_wp2_with fail
    go_end0
    exact ⟨⟨_, rfl⟩, HC.out, Only.refl _ _⟩
  | false =>
    go_enter Tryz.func47, Tryz.ntmps47
    go_wp2_with fail
    refine (curFail_is g R e x l _ HC.out hx).mono ?_
    rintro r w1 ⟨⟨y, rfl⟩, hc, ho⟩
    have C1 := Lib.hid hc
    have O1 := Lib.hid ho
    clear hc ho
    go_wp2_with fail
    go_end0
    exact ⟨⟨_, rfl⟩, C1.out, O1.out⟩
def NdA (g : Nat) (R : Option Nat) (x : Int) (b : Bool) (e : Int) (l : List Int) (e' : Int) (l' : List Int) : Prop :=
  ∀ W, CurAt W g R e l → Calls Tryz.prog 47 #[.bool b, .int .i64 x, failF g] W fun r w' => (∃ y, r = .returned y) ∧ CurAt w' g R e' l' ∧ Only g W w'
/-- What a read of a value comes to. -/
def ReadsV (w : World) (g : Nat) (R : Option Nat) (v : Vl) (e : Int) (l : List Int) (r : Ending) (w' : World) : Prop := r = .returned (.agg v.cells.toArray) ∧ CurAt w' g R e l ∧ Only g w w'
structure FinV (q : M.Got Vl) (p : Int × List Int) (v : Vl) : Prop where
  err : p.1 = q.err
  rst : p.2 = q.rst
  val : p.1 = 0 → v = q.val vzero
theorem finv_bad {q : M.Got Vl} {p : Int × List Int} {v : Vl} {e : Int} (he : e ≠ 0) (hp : p = (e, [])) (hq : q = .bad e) : FinV q p v := by
  subst hp hq
  exact ⟨rfl, rfl, fun h => absurd h he⟩
theorem finv_got {q : M.Got Vl} {p : Int × List Int} {v : Vl} {r : List Int} (hp : p = (0, r)) (hq : q = .got v r) : FinV q p v := by
  subst hp hq
  exact ⟨rfl, rfl, fun _ => rfl⟩
theorem finv1 (l : List Int) : FinV (rVal 1 l) (fs ((((M.gate 0 (M.rByte l)).val 0) == 1) || (((M.gate 0 (M.rByte l)).val 0) == 2)) 3 ((M.gate 0 (M.rByte l)).err, (M.gate 0 (M.rByte l)).rst)) ⟨(M.gate 0 (M.rByte l)).val 0, M.zero8⟩ := by
  rw [M.gate_ok]
  unfold rVal
  rw [if_pos rfl]
  cases hq : M.rByte l with
  | bad e =>
    have he : e ≠ 0 := by cases l with
      | nil => simp only [M.rByte, M.Got.bad.injEq] at hq; omega
      | cons c r => simp [M.rByte] at hq
    exact finv_bad he (fs_bad he) rfl
  | got c r =>
    by_cases h : c = 1 ∨ c = 2
    · have hb : ((c == 1) || (c == 2)) = true := by rcases h with rfl | rfl <;> rfl
      refine finv_got (r := r) ?_ ?_
      · show fs ((c == 1) || (c == 2)) 3 (0, r) = _
        rw [hb]; rfl
      · simp only
        rw [if_pos h]; rfl
    · have hb : ((c == 1) || (c == 2)) = false := by
        rw [Bool.or_eq_false_iff]
        exact ⟨beq_eq_false_iff_ne.2 fun q => h (.inl q), beq_eq_false_iff_ne.2 fun q => h (.inr q)⟩
      refine finv_bad (e := 3) (by decide) ?_ ?_
      · show fs ((c == 1) || (c == 2)) 3 (0, r) = _
        rw [hb]; rfl
      · simp only
        rw [if_neg h]
theorem finv2 (s : Int) (h1 : s ≠ 1) (h4 : s ≠ 4) (l : List Int) (hb : M.Bytes l) : FinV (rVal s l) (fs (decide (0 < (M.gate 0 (M.rNum 4294967295 l)).val 0)) 3 ((M.gate 0 (M.rNum 4294967295 l)).err, (M.gate 0 (M.rNum 4294967295 l)).rst)) ⟨(M.gate 0 (M.rNum 4294967295 l)).val 0, M.zero8⟩ := by
  have hr := gate_num (e := 0) (most := 4294967295) hb (by decide)
  rw [M.gate_ok] at hr ⊢
  unfold rVal
  rw [if_neg h1, if_neg h4]
  cases hq : M.rNum 4294967295 l with
  | bad e =>
    have he := rNum_err hq
    exact finv_bad he (fs_bad he) rfl
  | got x r =>
    rw [hq] at hr
    have x0 : 0 ≤ x := hr.1
    by_cases h : x = 0
    · refine finv_bad (e := 3) (by decide) ?_ ?_
      · show fs (decide (0 < x)) 3 (0, r) = _
        rw [decide_eq_false (by omega)]; rfl
      · simp only
        rw [if_pos h]
    · refine finv_got (r := r) ?_ ?_
      · show fs (decide (0 < x)) 3 (0, r) = _
        rw [decide_eq_true (by omega)]; rfl
      · simp only
        rw [if_neg h]; rfl
def u1 (l : List Int) : M.Got Int := M.gate 0 (M.rNum 1099511627775 l)
def q1 (l : List Int) : Int × List Int := fs (decide ((u1 l).val 0 % 256 < 16)) 2 ((u1 l).err, (u1 l).rst)
def q2 (l : List Int) : Int × List Int := fs (decide (0 < (u1 l).val 0 / 256 % 4294967296)) 3 ((q1 l).1, (q1 l).2)
def u2 (l : List Int) : M.Got (List Int) := M.gate (q2 l).1 (M.rName (q2 l).2)
theorem finv4 (l : List Int) (hb : M.Bytes l) : FinV (rVal 4 l) ((u2 l).err, (u2 l).rst) ⟨(u1 l).val 0, (u2 l).val M.zero8⟩ := by
  have hr := gate_num (e := 0) (most := 1099511627775) hb (by decide)
  unfold rVal
  rw [if_neg (by decide), if_pos rfl]
  rw [M.gate_ok] at hr
  cases hq : M.rNum 1099511627775 l with
  | bad e =>
    have he := rNum_err hq
    have a1 : u1 l = .bad e := by unfold u1; rw [M.gate_ok, hq]
    have a2 : q1 l = (e, []) := by unfold q1; rw [a1]; exact fs_bad he
    have a3 : q2 l = (e, []) := by unfold q2; rw [a2]; exact fs_bad he
    have a4 : u2 l = .bad e := by unfold u2; rw [a3]; exact M.gate_bad he _
    exact finv_bad he (by rw [a4]; rfl) rfl
  | got x r =>
    rw [hq] at hr
    have x0 : 0 ≤ x := hr.1
    have x1 : x ≤ 1099511627775 := hr.2
    have a1 : u1 l = .got x r := by unfold u1; rw [M.gate_ok, hq]
    by_cases h : 16 ≤ x % 256
    · have a2 : q1 l = (2, []) := by
        unfold q1; rw [a1]
        show fs (decide (x % 256 < 16)) 2 (0, r) = _
        rw [decide_eq_false (by omega)]; rfl
      have a3 : q2 l = (2, []) := by unfold q2; rw [a2]; exact fs_bad (by decide)
      have a4 : u2 l = .bad 2 := by unfold u2; rw [a3]; exact M.gate_bad (by decide) _
      refine finv_bad (e := 2) (by decide) (by rw [a4]; rfl) ?_
      simp only
      rw [if_pos h]
    · have a2 : q1 l = (0, r) := by
        unfold q1; rw [a1]
        show fs (decide (x % 256 < 16)) 2 (0, r) = _
        rw [decide_eq_true (by omega)]; rfl
      by_cases k : x / 256 = 0
      · have a3 : q2 l = (3, []) := by
          unfold q2; rw [a2, a1]
          show fs (decide (0 < x / 256 % 4294967296)) 3 (0, r) = _
          rw [decide_eq_false (by omega)]; rfl
        have a4 : u2 l = .bad 3 := by unfold u2; rw [a3]; exact M.gate_bad (by decide) _
        refine finv_bad (e := 3) (by decide) (by rw [a4]; rfl) ?_
        simp only
        rw [if_neg h, if_pos k]
      · have a3 : q2 l = (0, r) := by
          unfold q2; rw [a2, a1]
          show fs (decide (0 < x / 256 % 4294967296)) 3 (0, r) = _
          rw [decide_eq_true (by omega)]; rfl
        have a4 : u2 l = M.rName r := by unfold u2; rw [a3]; exact M.gate_ok _
        cases hm : M.rName r with
        | bad e =>
          have he := rName_bad hm
          refine finv_bad (e := e) he (by rw [a4, hm]; rfl) ?_
          simp only
          rw [if_neg h, if_neg k, hm]
        | got m r' =>
          refine finv_got (r := r') (by rw [a4, hm]; rfl) ?_
          simp only
          rw [if_neg h, if_neg k, hm, a1, a4, hm]; rfl
set_option maxRecDepth 100000 in
set_option maxHeartbeats 1000000 in
theorem rv0 (g : Nat) (R : Option Nat) (e : Int) (l : List Int) (w : World) (h : CurAt w g R e l) :
    Calls Tryz.prog 26 #[.pointer (some ⟨g, 0, none⟩), .int .u8 0, failF g] w (ReadsV w g R vzero e l) := by
  have hz := zero30
  have GN := Lib.hid (h.far (Nat.le_succ w.heap.size)).1
  have RN := Lib.hid (h.far (Nat.le_succ w.heap.size)).2
  have GZ := Lib.hid (h.far (Nat.le_refl w.heap.size)).1
  have RZ := Lib.hid (h.far (Nat.le_refl w.heap.size)).2
  have NG := Lib.hid GN.out.symm
  have ZG := Lib.hid GZ.out.symm
  have ZN := Lib.hid (show w.heap.size ≠ w.heap.size + 1 by omega)
  have K0 := Lib.hid (blk2 w (.cells vzero.cells.toArray 30) 30 vzero.cells)
  have R0 := Lib.hid ((blk_alloc w 30 vzero.cells).alloc (.cells vzero.cells.toArray 30))
  have C0 := Lib.hid ((h.alloc (.cells vzero.cells.toArray 30)).alloc (.cells vzero.cells.toArray 30))
  have O0 := Lib.hid (((Only.refl g w).alloc (.cells vzero.cells.toArray 30)).alloc (.cells vzero.cells.toArray 30))
  clear h
  go_enter Tryz.func26, Tryz.ntmps26
  go_wp2_with (first
    | refine wpList_load_vl rfl _ rfl (w.heap.size + 1) 0 vzero rfl K0.out.range rfl ?_
    | (refine wpList_store_vl rfl _ _ rfl w.heap.size vzero vzero rfl rfl R0.out rfl rfl ?_; intro wz KZ OZ))
  refine bodyPost_ret (results_vl rfl _ _ w.heap.size vzero rfl KZ.out rfl) rfl ?_
  exact ⟨rfl, C0.out.only OZ.out GZ.out RZ.out, O0.out.new OZ.out (Nat.le_refl _)⟩
set_option maxRecDepth 100000 in
set_option maxHeartbeats 1000000 in
theorem rv1a (g : Nat) (R : Option Nat) (l l1 m1 : List Int) (c e1' f1 : Int) (b : Bool) (w : World) (h : CurAt w g R 0 l) (H1 : Hid (Rd g R 46 #[.pointer (some ⟨g, 0, none⟩)] 0 l (.int .u8 c) e1' l1)) (cw : IntKind.u64.wrap c = c) (e1 : (c == 1) = true) (hb : b = true) (N1 : Hid (NdA g R 3 b e1' l1 f1 m1)) :
    Calls Tryz.prog 26 #[.pointer (some ⟨g, 0, none⟩), .int .u8 1, failF g] w (ReadsV w g R ⟨c, M.zero8⟩ f1 m1) := by
  subst hb
  have hz := zero30
  have GN := Lib.hid (h.far (Nat.le_succ w.heap.size)).1
  have RN := Lib.hid (h.far (Nat.le_succ w.heap.size)).2
  have GZ := Lib.hid (h.far (Nat.le_refl w.heap.size)).1
  have RZ := Lib.hid (h.far (Nat.le_refl w.heap.size)).2
  have NG := Lib.hid GN.out.symm
  have ZG := Lib.hid GZ.out.symm
  have ZN := Lib.hid (show w.heap.size ≠ w.heap.size + 1 by omega)
  have K0 := Lib.hid (blk2 w (.cells vzero.cells.toArray 30) 30 vzero.cells)
  have R0 := Lib.hid ((blk_alloc w 30 vzero.cells).alloc (.cells vzero.cells.toArray 30))
  have C0 := Lib.hid ((h.alloc (.cells vzero.cells.toArray 30)).alloc (.cells vzero.cells.toArray 30))
  have O0 := Lib.hid (((Only.refl g w).alloc (.cells vzero.cells.toArray 30)).alloc (.cells vzero.cells.toArray 30))
  clear h
  go_enter Tryz.func26, Tryz.ntmps26
  go_wp2_with fail
  refine (H1.out _ C0.out).mono ?_
  rintro rr w1 ⟨rfl, hc, ho⟩
  have C1 := Lib.hid hc
  have K1 := Lib.hid (K0.out.only ho NG.out)
  have R1 := Lib.hid (R0.out.only ho ZG.out)
  have O1 := Lib.hid (O0.out.trans ho)
  clear hc ho
  have cc := K1.out.cell (vc0 vzero)
  have ff := K1.out.frozen 0
  have OS := Lib.hid (Only.set (w.heap.size + 1) 0 w1 (.int .u64 c))
  have K2 := Lib.hid (show Blk (w1.setCell ⟨w.heap.size + 1, 0, none⟩ (.int .u64 c)) (w.heap.size + 1) 30 (⟨c, M.zero8⟩ : Vl).cells from K1.out.set 0 (.int .u64 c))
  have C2 := Lib.hid (C1.out.only OS.out GN.out RN.out)
  have R2 := Lib.hid (R1.out.only OS.out ZN.out)
  have O2 := Lib.hid (O1.out.new OS.out (Nat.le_succ _))
  have dd := K2.out.cell (vc0 (⟨c, M.zero8⟩ : Vl))
  clear OS
  go_wp2_with fail
  refine (N1.out _ C2.out).mono ?_
  rintro rr w3 ⟨⟨y, rfl⟩, hc, ho⟩
  have C3 := Lib.hid hc
  have K3 := Lib.hid (K2.out.only ho NG.out)
  have R3 := Lib.hid (R2.out.only ho ZG.out)
  have O3 := Lib.hid (O2.out.trans ho)
  clear hc ho
  go_wp2_with (first
    | refine wpList_load_vl rfl _ rfl (w.heap.size + 1) 0 (⟨c, M.zero8⟩ : Vl) rfl K3.out.range rfl ?_
    | (refine wpList_store_vl rfl _ _ rfl w.heap.size vzero (⟨c, M.zero8⟩ : Vl) rfl rfl R3.out rfl rfl ?_; intro wz KZ OZ))
  refine bodyPost_ret (results_vl rfl _ _ w.heap.size (⟨c, M.zero8⟩ : Vl) rfl KZ.out rfl) rfl ?_
  exact ⟨rfl, C3.out.only OZ.out GZ.out RZ.out, O3.out.new OZ.out (Nat.le_refl _)⟩
set_option maxRecDepth 100000 in
set_option maxHeartbeats 1000000 in
theorem rv1b (g : Nat) (R : Option Nat) (l l1 m1 : List Int) (c e1' f1 : Int) (b : Bool) (w : World) (h : CurAt w g R 0 l) (H1 : Hid (Rd g R 46 #[.pointer (some ⟨g, 0, none⟩)] 0 l (.int .u8 c) e1' l1)) (cw : IntKind.u64.wrap c = c) (e1 : (c == 1) = false) (hb : (c == 2) = b) (N1 : Hid (NdA g R 3 b e1' l1 f1 m1)) :
    Calls Tryz.prog 26 #[.pointer (some ⟨g, 0, none⟩), .int .u8 1, failF g] w (ReadsV w g R ⟨c, M.zero8⟩ f1 m1) := by
  subst hb
  have hz := zero30
  have GN := Lib.hid (h.far (Nat.le_succ w.heap.size)).1
  have RN := Lib.hid (h.far (Nat.le_succ w.heap.size)).2
  have GZ := Lib.hid (h.far (Nat.le_refl w.heap.size)).1
  have RZ := Lib.hid (h.far (Nat.le_refl w.heap.size)).2
  have NG := Lib.hid GN.out.symm
  have ZG := Lib.hid GZ.out.symm
  have ZN := Lib.hid (show w.heap.size ≠ w.heap.size + 1 by omega)
  have K0 := Lib.hid (blk2 w (.cells vzero.cells.toArray 30) 30 vzero.cells)
  have R0 := Lib.hid ((blk_alloc w 30 vzero.cells).alloc (.cells vzero.cells.toArray 30))
  have C0 := Lib.hid ((h.alloc (.cells vzero.cells.toArray 30)).alloc (.cells vzero.cells.toArray 30))
  have O0 := Lib.hid (((Only.refl g w).alloc (.cells vzero.cells.toArray 30)).alloc (.cells vzero.cells.toArray 30))
  clear h
  go_enter Tryz.func26, Tryz.ntmps26
  go_wp2_with fail
  refine (H1.out _ C0.out).mono ?_
  rintro rr w1 ⟨rfl, hc, ho⟩
  have C1 := Lib.hid hc
  have K1 := Lib.hid (K0.out.only ho NG.out)
  have R1 := Lib.hid (R0.out.only ho ZG.out)
  have O1 := Lib.hid (O0.out.trans ho)
  clear hc ho
  have cc := K1.out.cell (vc0 vzero)
  have ff := K1.out.frozen 0
  have OS := Lib.hid (Only.set (w.heap.size + 1) 0 w1 (.int .u64 c))
  have K2 := Lib.hid (show Blk (w1.setCell ⟨w.heap.size + 1, 0, none⟩ (.int .u64 c)) (w.heap.size + 1) 30 (⟨c, M.zero8⟩ : Vl).cells from K1.out.set 0 (.int .u64 c))
  have C2 := Lib.hid (C1.out.only OS.out GN.out RN.out)
  have R2 := Lib.hid (R1.out.only OS.out ZN.out)
  have O2 := Lib.hid (O1.out.new OS.out (Nat.le_succ _))
  have dd := K2.out.cell (vc0 (⟨c, M.zero8⟩ : Vl))
  clear OS
  go_wp2_with fail
  refine (N1.out _ C2.out).mono ?_
  rintro rr w3 ⟨⟨y, rfl⟩, hc, ho⟩
  have C3 := Lib.hid hc
  have K3 := Lib.hid (K2.out.only ho NG.out)
  have R3 := Lib.hid (R2.out.only ho ZG.out)
  have O3 := Lib.hid (O2.out.trans ho)
  clear hc ho
  go_wp2_with (first
    | refine wpList_load_vl rfl _ rfl (w.heap.size + 1) 0 (⟨c, M.zero8⟩ : Vl) rfl K3.out.range rfl ?_
    | (refine wpList_store_vl rfl _ _ rfl w.heap.size vzero (⟨c, M.zero8⟩ : Vl) rfl rfl R3.out rfl rfl ?_; intro wz KZ OZ))
  refine bodyPost_ret (results_vl rfl _ _ w.heap.size (⟨c, M.zero8⟩ : Vl) rfl KZ.out rfl) rfl ?_
  exact ⟨rfl, C3.out.only OZ.out GZ.out RZ.out, O3.out.new OZ.out (Nat.le_refl _)⟩
set_option maxRecDepth 100000 in
set_option maxHeartbeats 1000000 in
theorem rv2 (g : Nat) (R : Option Nat) (l l1 m1 : List Int) (x e1' f1 : Int) (w : World) (h : CurAt w g R 0 l) (H1 : Hid (Rd g R 48 #[.pointer (some ⟨g, 0, none⟩), .int .u64 4294967295] 0 l (.int .u64 x) e1' l1)) (N1 : Hid (NdA g R 3 (decide (0 < x)) e1' l1 f1 m1)) :
    Calls Tryz.prog 26 #[.pointer (some ⟨g, 0, none⟩), .int .u8 2, failF g] w (ReadsV w g R ⟨x, M.zero8⟩ f1 m1) := by
  have hz := zero30
  have GN := Lib.hid (h.far (Nat.le_succ w.heap.size)).1
  have RN := Lib.hid (h.far (Nat.le_succ w.heap.size)).2
  have GZ := Lib.hid (h.far (Nat.le_refl w.heap.size)).1
  have RZ := Lib.hid (h.far (Nat.le_refl w.heap.size)).2
  have NG := Lib.hid GN.out.symm
  have ZG := Lib.hid GZ.out.symm
  have ZN := Lib.hid (show w.heap.size ≠ w.heap.size + 1 by omega)
  have K0 := Lib.hid (blk2 w (.cells vzero.cells.toArray 30) 30 vzero.cells)
  have R0 := Lib.hid ((blk_alloc w 30 vzero.cells).alloc (.cells vzero.cells.toArray 30))
  have C0 := Lib.hid ((h.alloc (.cells vzero.cells.toArray 30)).alloc (.cells vzero.cells.toArray 30))
  have O0 := Lib.hid (((Only.refl g w).alloc (.cells vzero.cells.toArray 30)).alloc (.cells vzero.cells.toArray 30))
  clear h
  go_enter Tryz.func26, Tryz.ntmps26
  go_wp2_with fail
  refine (H1.out _ C0.out).mono ?_
  rintro rr w1 ⟨rfl, hc, ho⟩
  have C1 := Lib.hid hc
  have K1 := Lib.hid (K0.out.only ho NG.out)
  have R1 := Lib.hid (R0.out.only ho ZG.out)
  have O1 := Lib.hid (O0.out.trans ho)
  clear hc ho
  have cc := K1.out.cell (vc0 vzero)
  have ff := K1.out.frozen 0
  have OS := Lib.hid (Only.set (w.heap.size + 1) 0 w1 (.int .u64 x))
  have K2 := Lib.hid (show Blk (w1.setCell ⟨w.heap.size + 1, 0, none⟩ (.int .u64 x)) (w.heap.size + 1) 30 (⟨x, M.zero8⟩ : Vl).cells from K1.out.set 0 (.int .u64 x))
  have C2 := Lib.hid (C1.out.only OS.out GN.out RN.out)
  have R2 := Lib.hid (R1.out.only OS.out ZN.out)
  have O2 := Lib.hid (O1.out.new OS.out (Nat.le_succ _))
  have dd := K2.out.cell (vc0 (⟨x, M.zero8⟩ : Vl))
  clear OS
  go_wp2_with fail
  refine (N1.out _ C2.out).mono ?_
  rintro rr w3 ⟨⟨y, rfl⟩, hc, ho⟩
  have C3 := Lib.hid hc
  have K3 := Lib.hid (K2.out.only ho NG.out)
  have R3 := Lib.hid (R2.out.only ho ZG.out)
  have O3 := Lib.hid (O2.out.trans ho)
  clear hc ho
  go_wp2_with (first
    | refine wpList_load_vl rfl _ rfl (w.heap.size + 1) 0 (⟨x, M.zero8⟩ : Vl) rfl K3.out.range rfl ?_
    | (refine wpList_store_vl rfl _ _ rfl w.heap.size vzero (⟨x, M.zero8⟩ : Vl) rfl rfl R3.out rfl rfl ?_; intro wz KZ OZ))
  refine bodyPost_ret (results_vl rfl _ _ w.heap.size (⟨x, M.zero8⟩ : Vl) rfl KZ.out rfl) rfl ?_
  exact ⟨rfl, C3.out.only OZ.out GZ.out RZ.out, O3.out.new OZ.out (Nat.le_refl _)⟩
set_option maxRecDepth 100000 in
set_option maxHeartbeats 1000000 in
theorem rv3 (g : Nat) (R : Option Nat) (l l1 m1 : List Int) (x e1' f1 : Int) (w : World) (h : CurAt w g R 0 l) (H1 : Hid (Rd g R 48 #[.pointer (some ⟨g, 0, none⟩), .int .u64 4294967295] 0 l (.int .u64 x) e1' l1)) (N1 : Hid (NdA g R 3 (decide (0 < x)) e1' l1 f1 m1)) :
    Calls Tryz.prog 26 #[.pointer (some ⟨g, 0, none⟩), .int .u8 3, failF g] w (ReadsV w g R ⟨x, M.zero8⟩ f1 m1) := by
  have hz := zero30
  have GN := Lib.hid (h.far (Nat.le_succ w.heap.size)).1
  have RN := Lib.hid (h.far (Nat.le_succ w.heap.size)).2
  have GZ := Lib.hid (h.far (Nat.le_refl w.heap.size)).1
  have RZ := Lib.hid (h.far (Nat.le_refl w.heap.size)).2
  have NG := Lib.hid GN.out.symm
  have ZG := Lib.hid GZ.out.symm
  have ZN := Lib.hid (show w.heap.size ≠ w.heap.size + 1 by omega)
  have K0 := Lib.hid (blk2 w (.cells vzero.cells.toArray 30) 30 vzero.cells)
  have R0 := Lib.hid ((blk_alloc w 30 vzero.cells).alloc (.cells vzero.cells.toArray 30))
  have C0 := Lib.hid ((h.alloc (.cells vzero.cells.toArray 30)).alloc (.cells vzero.cells.toArray 30))
  have O0 := Lib.hid (((Only.refl g w).alloc (.cells vzero.cells.toArray 30)).alloc (.cells vzero.cells.toArray 30))
  clear h
  go_enter Tryz.func26, Tryz.ntmps26
  go_wp2_with fail
  refine (H1.out _ C0.out).mono ?_
  rintro rr w1 ⟨rfl, hc, ho⟩
  have C1 := Lib.hid hc
  have K1 := Lib.hid (K0.out.only ho NG.out)
  have R1 := Lib.hid (R0.out.only ho ZG.out)
  have O1 := Lib.hid (O0.out.trans ho)
  clear hc ho
  have cc := K1.out.cell (vc0 vzero)
  have ff := K1.out.frozen 0
  have OS := Lib.hid (Only.set (w.heap.size + 1) 0 w1 (.int .u64 x))
  have K2 := Lib.hid (show Blk (w1.setCell ⟨w.heap.size + 1, 0, none⟩ (.int .u64 x)) (w.heap.size + 1) 30 (⟨x, M.zero8⟩ : Vl).cells from K1.out.set 0 (.int .u64 x))
  have C2 := Lib.hid (C1.out.only OS.out GN.out RN.out)
  have R2 := Lib.hid (R1.out.only OS.out ZN.out)
  have O2 := Lib.hid (O1.out.new OS.out (Nat.le_succ _))
  have dd := K2.out.cell (vc0 (⟨x, M.zero8⟩ : Vl))
  clear OS
  go_wp2_with fail
  refine (N1.out _ C2.out).mono ?_
  rintro rr w3 ⟨⟨y, rfl⟩, hc, ho⟩
  have C3 := Lib.hid hc
  have K3 := Lib.hid (K2.out.only ho NG.out)
  have R3 := Lib.hid (R2.out.only ho ZG.out)
  have O3 := Lib.hid (O2.out.trans ho)
  clear hc ho
  go_wp2_with (first
    | refine wpList_load_vl rfl _ rfl (w.heap.size + 1) 0 (⟨x, M.zero8⟩ : Vl) rfl K3.out.range rfl ?_
    | (refine wpList_store_vl rfl _ _ rfl w.heap.size vzero (⟨x, M.zero8⟩ : Vl) rfl rfl R3.out rfl rfl ?_; intro wz KZ OZ))
  refine bodyPost_ret (results_vl rfl _ _ w.heap.size (⟨x, M.zero8⟩ : Vl) rfl KZ.out rfl) rfl ?_
  exact ⟨rfl, C3.out.only OZ.out GZ.out RZ.out, O3.out.new OZ.out (Nat.le_refl _)⟩
set_option maxRecDepth 100000 in
set_option maxHeartbeats 1000000 in
theorem rv4 (g : Nat) (R : Option Nat) (l l1 m1 m2 l3 : List Int) (x n r e1' f1 f2 e3 : Int) (m : List Int) (w : World) (h : CurAt w g R 0 l) (H1 : Hid (Rd g R 48 #[.pointer (some ⟨g, 0, none⟩), .int .u64 1099511627775] 0 l (.int .u64 x) e1' l1)) (hn : Hid (x / 256 % 4294967296 = n)) (hr : Hid (x % 256 = r)) (N1 : Hid (NdA g R 2 (decide (r < 16)) e1' l1 f1 m1)) (N2 : Hid (NdA g R 3 (decide (0 < n)) f1 m1 f2 m2)) (H3 : Hid (Rd g R 52 #[.pointer (some ⟨g, 0, none⟩)] f2 m2 (.agg (nm m)) e3 l3)) (ML : Hid (m.length = 8)) :
    Calls Tryz.prog 26 #[.pointer (some ⟨g, 0, none⟩), .int .u8 4, failF g] w (ReadsV w g R ⟨x, m⟩ e3 l3) := by
  have hz := zero30
  have GN := Lib.hid (h.far (Nat.le_succ w.heap.size)).1
  have RN := Lib.hid (h.far (Nat.le_succ w.heap.size)).2
  have GZ := Lib.hid (h.far (Nat.le_refl w.heap.size)).1
  have RZ := Lib.hid (h.far (Nat.le_refl w.heap.size)).2
  have NG := Lib.hid GN.out.symm
  have ZG := Lib.hid GZ.out.symm
  have ZN := Lib.hid (show w.heap.size ≠ w.heap.size + 1 by omega)
  have K0 := Lib.hid (blk2 w (.cells vzero.cells.toArray 30) 30 vzero.cells)
  have R0 := Lib.hid ((blk_alloc w 30 vzero.cells).alloc (.cells vzero.cells.toArray 30))
  have C0 := Lib.hid ((h.alloc (.cells vzero.cells.toArray 30)).alloc (.cells vzero.cells.toArray 30))
  have O0 := Lib.hid (((Only.refl g w).alloc (.cells vzero.cells.toArray 30)).alloc (.cells vzero.cells.toArray 30))
  clear h
  go_enter Tryz.func26, Tryz.ntmps26
  go_wp2_with fail
  refine (stamp_is 4294967295 255 1099511627775 _ (by decide) (by decide) (by decide) (by decide) (Lib.hid rfl)).mono ?_
  rintro rr ww ⟨rfl, rfl⟩
  go_wp2_with fail
  refine (H1.out _ C0.out).mono ?_
  rintro rr w1 ⟨rfl, hc, ho⟩
  have C1 := Lib.hid hc
  have K1 := Lib.hid (K0.out.only ho NG.out)
  have R1 := Lib.hid (R0.out.only ho ZG.out)
  have O1 := Lib.hid (O0.out.trans ho)
  clear hc ho
  have cc := K1.out.cell (vc0 vzero)
  have ff := K1.out.frozen 0
  have OS := Lib.hid (Only.set (w.heap.size + 1) 0 w1 (.int .u64 x))
  have K2 := Lib.hid (show Blk (w1.setCell ⟨w.heap.size + 1, 0, none⟩ (.int .u64 x)) (w.heap.size + 1) 30 (⟨x, M.zero8⟩ : Vl).cells from K1.out.set 0 (.int .u64 x))
  have C2 := Lib.hid (C1.out.only OS.out GN.out RN.out)
  have R2 := Lib.hid (R1.out.only OS.out ZN.out)
  have O2 := Lib.hid (O1.out.new OS.out (Nat.le_succ _))
  have dd := K2.out.cell (vc0 (⟨x, M.zero8⟩ : Vl))
  clear OS
  go_wp2_with fail
  refine (unstamp_is x n r _ hn hr).mono ?_
  rintro rr ww ⟨rfl, rfl⟩
  go_wp2_with fail
  refine (aisRep_is r _).mono ?_
  rintro rr ww ⟨rfl, rfl⟩
  go_wp2_with fail
  refine (N1.out _ C2.out).mono ?_
  rintro rr w3 ⟨⟨y, rfl⟩, hc, ho⟩
  have C3 := Lib.hid hc
  have K3 := Lib.hid (K2.out.only ho NG.out)
  have R3 := Lib.hid (R2.out.only ho ZG.out)
  have O3 := Lib.hid (O2.out.trans ho)
  clear hc ho
  go_wp2_with fail
  refine (N2.out _ C3.out).mono ?_
  rintro rr w4 ⟨⟨y, rfl⟩, hc, ho⟩
  have C4 := Lib.hid hc
  have K4 := Lib.hid (K3.out.only ho NG.out)
  have R4 := Lib.hid (R3.out.only ho ZG.out)
  have O4 := Lib.hid (O3.out.trans ho)
  clear hc ho
  go_wp2_with fail
  refine (H3.out _ C4.out).mono ?_
  rintro rr w5 ⟨rfl, hc, ho⟩
  have C5 := Lib.hid hc
  have K5 := Lib.hid (K4.out.only ho NG.out)
  have R5 := Lib.hid (R4.out.only ho ZG.out)
  have O5 := Lib.hid (O4.out.trans ho)
  clear hc ho
  go_wp2_with (first
    | (refine wpList_store_vnm rfl _ _ rfl (w.heap.size + 1) (⟨x, M.zero8⟩ : Vl) m rfl rfl K5.out rfl ML.out ?_; intro w6 K6 OS; have C6 := Lib.hid (C5.out.only OS.out GN.out RN.out); have R6 := Lib.hid (R5.out.only OS.out ZN.out); have O6 := Lib.hid (O5.out.new OS.out (Nat.le_succ _)); clear OS)
    | refine wpList_load_vl rfl _ rfl (w.heap.size + 1) 0 (⟨x, m⟩ : Vl) rfl K6.out.range ML.out ?_
    | (refine wpList_store_vl rfl _ _ rfl w.heap.size vzero (⟨x, m⟩ : Vl) rfl rfl R6.out rfl ML.out ?_; intro wz KZ OZ))
  refine bodyPost_ret (results_vl rfl _ _ w.heap.size (⟨x, m⟩ : Vl) rfl KZ.out ML.out) rfl ?_
  exact ⟨rfl, C6.out.only OZ.out GZ.out RZ.out, O6.out.new OZ.out (Nat.le_refl _)⟩
theorem name_ok {e : Int} {l : List Int} (h : M.Bytes l) : M.Bytes ((M.gate e (M.rName l)).val M.zero8) := by
  unfold M.gate
  split
  · cases hq : M.rName l with
    | bad e => exact zero8_bytes
    | got m r =>
      show M.Bytes m
      cases l with
      | nil => simp [M.rName] at hq
      | cons c t =>
        rw [M.rName_cons] at hq
        split at hq
        · cases hq
        · split at hq
          · cases hq
          · split at hq
            · cases hq
            · cases hq
              exact M.pad_bytes fun x hx => h x (List.mem_cons_of_mem _ ((List.take_subset _ _) hx))
  · exact zero8_bytes
theorem readVal_is (s : Int) (hs : s = 1 ∨ s = 2 ∨ s = 3 ∨ s = 4) (g : Nat) (R : Option Nat) (l : List Int) (hb : M.Bytes l) :
    ∃ v p, FinV (rVal s l) p v ∧ v.Ok ∧ ∀ w, CurAt w g R 0 l → Calls Tryz.prog 26 #[.pointer (some ⟨g, 0, none⟩), .int .u8 s, failF g] w (ReadsV w g R v p.1 p.2) := by
  rcases hs with rfl | rfl | rfl | rfl
  · have H1 : Rd g R 46 #[.pointer (some ⟨g, 0, none⟩)] 0 l (.int .u8 ((M.gate 0 (M.rByte l)).val 0)) (M.gate 0 (M.rByte l)).err (M.gate 0 (M.rByte l)).rst := fun W hW => byte_is g R 0 l _ W hW (Lib.hid rfl)
    have cr := gate_byte (e := 0) hb
    have cw : IntKind.u64.wrap ((M.gate 0 (M.rByte l)).val 0) = (M.gate 0 (M.rByte l)).val 0 := by rw [IntKind.wrap_u64]; omega
    have N1 : ∀ b, NdA g R 3 b (M.gate 0 (M.rByte l)).err (M.gate 0 (M.rByte l)).rst (fs b 3 ((M.gate 0 (M.rByte l)).err, (M.gate 0 (M.rByte l)).rst)).1 (fs b 3 ((M.gate 0 (M.rByte l)).err, (M.gate 0 (M.rByte l)).rst)).2 := fun b W hW => aneed_is _ 3 g R _ _ _ W hW (by decide) (Lib.hid rfl)
    have hf := finv1 l
    refine ⟨_, _, hf, ⟨rfl, zero8_bytes, cr.1, by show (M.gate 0 (M.rByte l)).val 0 < _; omega⟩, fun w h => ?_⟩
    cases hc : ((M.gate 0 (M.rByte l)).val 0 == 1) with
    | true =>
      rw [Bool.true_or]
      exact rv1a g R l _ _ _ _ _ true w h (Lib.hid H1) cw hc rfl (Lib.hid (N1 true))
    | false =>
      rw [Bool.false_or]
      exact rv1b g R l _ _ _ _ _ _ w h (Lib.hid H1) cw hc rfl (Lib.hid (N1 _))
  · have H1 : Rd g R 48 #[.pointer (some ⟨g, 0, none⟩), .int .u64 4294967295] 0 l (.int .u64 ((M.gate 0 (M.rNum 4294967295 l)).val 0)) (M.gate 0 (M.rNum 4294967295 l)).err (M.gate 0 (M.rNum 4294967295 l)).rst := fun W hW => num_is g R 0 4294967295 l _ W hW (Lib.hid rfl)
    have xr := gate_num (e := 0) (most := 4294967295) hb (by decide)
    have N1 := fun W hW => aneed_is (decide (0 < (M.gate 0 (M.rNum 4294967295 l)).val 0)) 3 g R (M.gate 0 (M.rNum 4294967295 l)).err (M.gate 0 (M.rNum 4294967295 l)).rst _ W hW (by decide) (Lib.hid rfl)
    exact ⟨_, _, finv2 2 (by decide) (by decide) l hb, ⟨rfl, zero8_bytes, xr.1, by show (M.gate 0 (M.rNum 4294967295 l)).val 0 < _; omega⟩, fun w h => rv2 g R l _ _ _ _ _ w h (Lib.hid H1) (Lib.hid N1)⟩
  · have H1 : Rd g R 48 #[.pointer (some ⟨g, 0, none⟩), .int .u64 4294967295] 0 l (.int .u64 ((M.gate 0 (M.rNum 4294967295 l)).val 0)) (M.gate 0 (M.rNum 4294967295 l)).err (M.gate 0 (M.rNum 4294967295 l)).rst := fun W hW => num_is g R 0 4294967295 l _ W hW (Lib.hid rfl)
    have xr := gate_num (e := 0) (most := 4294967295) hb (by decide)
    have N1 := fun W hW => aneed_is (decide (0 < (M.gate 0 (M.rNum 4294967295 l)).val 0)) 3 g R (M.gate 0 (M.rNum 4294967295 l)).err (M.gate 0 (M.rNum 4294967295 l)).rst _ W hW (by decide) (Lib.hid rfl)
    exact ⟨_, _, finv2 3 (by decide) (by decide) l hb, ⟨rfl, zero8_bytes, xr.1, by show (M.gate 0 (M.rNum 4294967295 l)).val 0 < _; omega⟩, fun w h => rv3 g R l _ _ _ _ _ w h (Lib.hid H1) (Lib.hid N1)⟩
  · have H1 : Rd g R 48 #[.pointer (some ⟨g, 0, none⟩), .int .u64 1099511627775] 0 l (.int .u64 ((u1 l).val 0)) (u1 l).err (u1 l).rst := fun W hW => num_is g R 0 1099511627775 l _ W hW (Lib.hid rfl)
    have xr : 0 ≤ (u1 l).val 0 ∧ (u1 l).val 0 ≤ 1099511627775 := gate_num (e := 0) (most := 1099511627775) hb (by decide)
    have N1 : NdA g R 2 (decide ((u1 l).val 0 % 256 < 16)) (u1 l).err (u1 l).rst (q1 l).1 (q1 l).2 := fun W hW => aneed_is _ 2 g R _ _ (q1 l) W hW (by decide) (Lib.hid rfl)
    have N2 : NdA g R 3 (decide (0 < (u1 l).val 0 / 256 % 4294967296)) (q1 l).1 (q1 l).2 (q2 l).1 (q2 l).2 := fun W hW => aneed_is _ 3 g R _ _ (q2 l) W hW (by decide) (Lib.hid rfl)
    have H3 : Rd g R 52 #[.pointer (some ⟨g, 0, none⟩)] (q2 l).1 (q2 l).2 (.agg (nm ((u2 l).val M.zero8))) (u2 l).err (u2 l).rst := fun W hW => name_is g R _ _ (u2 l) W hW (Lib.hid rfl)
    have b1 : M.Bytes (q1 l).2 := fs_bytes (p := ((u1 l).err, (u1 l).rst)) (rst_num hb)
    have b2 : M.Bytes (q2 l).2 := fs_bytes (p := ((q1 l).1, (q1 l).2)) b1
    exact ⟨_, _, finv4 l hb, ⟨name_len, name_ok b2, xr.1, by show (u1 l).val 0 < _; omega⟩, fun w h => rv4 g R l _ _ _ _ _ _ _ _ _ _ _ _ w h (Lib.hid H1) (Lib.hid rfl) (Lib.hid rfl) (Lib.hid N1) (Lib.hid N2) (Lib.hid H3) (Lib.hid name_len)⟩
/-- What a read of an atom comes to. -/
def ReadsA (w : World) (g : Nat) (R : Option Nat) (a : Am) (e : Int) (l : List Int) (r : Ending) (w' : World) : Prop := r = .returned (.agg a.cells.toArray) ∧ CurAt w' g R e l ∧ Only g w w'
set_option maxRecDepth 100000 in
set_option maxHeartbeats 1000000 in
theorem ard_bad (g : Nat) (R : Option Nat) (l l1 l2 : List Int) (k : Ky) (v : Vl) (e1 e2 : Int) (w : World) (h : CurAt w g R 0 l) (KO : Hid k.Ok) (VO : Hid v.Ok) (HK : Hid (∀ W, CurAt W g R 0 l → Calls Tryz.prog 25 #[.pointer (some ⟨g, 0, none⟩)] W (ReadsK W g R k e1 l1)))
    (HV : Hid (∀ W, CurAt W g R e1 l1 → Calls Tryz.prog 26 #[.pointer (some ⟨g, 0, none⟩), .int .u8 k.s, failF g] W (ReadsV W g R v e2 l2))) (he : ¬ e2 = 0) :
    Calls Tryz.prog 12 #[.pointer (some ⟨g, 0, none⟩)] w (ReadsA w g R azero e2 l2) := by
  have hz := zero32
  have hz7 := zero27
  have hz0 := zero30
  have GZ := Lib.hid (h.far (Nat.le_refl w.heap.size)).1
  have RZ := Lib.hid (h.far (Nat.le_refl w.heap.size)).2
  have ZG := Lib.hid GZ.out.symm
  have R0 := Lib.hid (blk_alloc w 32 azero.cells)
  have C0 := Lib.hid (h.alloc (.cells azero.cells.toArray 32))
  have O0 := Lib.hid ((Only.refl g w).alloc (.cells azero.cells.toArray 32))
  clear h
  go_enter Tryz.func12, Tryz.ntmps12
  go_wp2_with fail
  refine (HK.out _ C0.out).mono ?_
  rintro rr w1 ⟨rfl, hc, ho⟩
  have G1 := Lib.hid (hc.far (Nat.le_refl w1.heap.size)).1
  have Q1 := Lib.hid (hc.far (Nat.le_refl w1.heap.size)).2
  have H1 := Lib.hid G1.out.symm
  have C1 := Lib.hid (hc.alloc (.cells kzero.cells.toArray 27))
  have K1 := Lib.hid (blk_alloc w1 27 kzero.cells)
  have L1 := Lib.hid (R0.out.only ho ZG.out).lt
  have R1 := Lib.hid ((R0.out.only ho ZG.out).alloc (.cells kzero.cells.toArray 27))
  have O1 := Lib.hid ((O0.out.trans ho).alloc (.cells kzero.cells.toArray 27))
  have S1 := Lib.hid (Nat.le_of_lt L1.out)
  clear hc ho
  go_wp2_with (refine wpList_store_ky rfl _ _ rfl w1.heap.size kzero k rfl rfl K1.out rfl KO.out.ml ?_; intro w2 K2 OS; have C2 := Lib.hid (C1.out.only OS.out G1.out Q1.out); have R2 := Lib.hid (R1.out.only OS.out (Nat.ne_of_lt L1.out)); have O2 := Lib.hid (O1.out.new OS.out S1.out); have c2 := K2.out.cell (kc0 k); clear OS)
  refine (HV.out _ C2.out).mono ?_
  rintro rr w3 ⟨rfl, hc, ho⟩
  have G3 := Lib.hid (hc.far (Nat.le_refl w3.heap.size)).1
  have Q3 := Lib.hid (hc.far (Nat.le_refl w3.heap.size)).2
  have C3 := Lib.hid (hc.alloc (.cells vzero.cells.toArray 30))
  have V3 := Lib.hid (blk_alloc w3 30 vzero.cells)
  have M3 := Lib.hid (K2.out.only ho H1.out).lt
  have L3 := Lib.hid (R2.out.only ho ZG.out).lt
  have K3 := Lib.hid ((K2.out.only ho H1.out).alloc (.cells vzero.cells.toArray 30))
  have R3 := Lib.hid ((R2.out.only ho ZG.out).alloc (.cells vzero.cells.toArray 30))
  have O3 := Lib.hid ((O2.out.trans ho).alloc (.cells vzero.cells.toArray 30))
  have S3 := Lib.hid (Nat.le_of_lt L3.out)
  clear hc ho c2
  go_wp2_with (refine wpList_store_vl rfl _ _ rfl w3.heap.size vzero v rfl rfl V3.out rfl VO.out.tl ?_; intro w4 V4 OS; have C4 := Lib.hid (C3.out.only OS.out G3.out Q3.out); have K4 := Lib.hid (K3.out.only OS.out (Nat.ne_of_lt M3.out)); have R4 := Lib.hid (R3.out.only OS.out (Nat.ne_of_lt L3.out)); have O4 := Lib.hid (O3.out.new OS.out S3.out); clear OS)
  refine (curErrK_is g R e2 l2 _ C4.out).mono ?_
  rintro rr w5 ⟨rfl, rfl⟩
  go_wp2_with (first
    | refine wpList_build rfl 32 _ rfl [] rfl _ built32_0 ?_
    | (refine wpList_store_am rfl _ _ rfl w.heap.size azero azero rfl rfl R4.out azero_ok azero_ok ?_; intro wz KZ OZ))
  refine bodyPost_ret (results_am rfl _ _ w.heap.size azero rfl KZ.out azero_ok) rfl ?_
  exact ⟨rfl, C4.out.only OZ.out GZ.out RZ.out, O4.out.new OZ.out (Nat.le_refl _)⟩
set_option maxRecDepth 100000 in
set_option maxHeartbeats 1000000 in
theorem ard_ok (g : Nat) (R : Option Nat) (l l1 l2 : List Int) (k : Ky) (v : Vl) (e1 e2 : Int) (w : World) (h : CurAt w g R 0 l) (KO : Hid k.Ok) (VO : Hid v.Ok) (HK : Hid (∀ W, CurAt W g R 0 l → Calls Tryz.prog 25 #[.pointer (some ⟨g, 0, none⟩)] W (ReadsK W g R k e1 l1)))
    (HV : Hid (∀ W, CurAt W g R e1 l1 → Calls Tryz.prog 26 #[.pointer (some ⟨g, 0, none⟩), .int .u8 k.s, failF g] W (ReadsV W g R v e2 l2))) (he : e2 = 0) :
    Calls Tryz.prog 12 #[.pointer (some ⟨g, 0, none⟩)] w (ReadsA w g R ⟨k, v⟩ e2 l2) := by
  have hz := zero32
  have hz7 := zero27
  have hz0 := zero30
  have GZ := Lib.hid (h.far (Nat.le_refl w.heap.size)).1
  have RZ := Lib.hid (h.far (Nat.le_refl w.heap.size)).2
  have ZG := Lib.hid GZ.out.symm
  have R0 := Lib.hid (blk_alloc w 32 azero.cells)
  have C0 := Lib.hid (h.alloc (.cells azero.cells.toArray 32))
  have O0 := Lib.hid ((Only.refl g w).alloc (.cells azero.cells.toArray 32))
  clear h
  go_enter Tryz.func12, Tryz.ntmps12
  go_wp2_with fail
  refine (HK.out _ C0.out).mono ?_
  rintro rr w1 ⟨rfl, hc, ho⟩
  have G1 := Lib.hid (hc.far (Nat.le_refl w1.heap.size)).1
  have Q1 := Lib.hid (hc.far (Nat.le_refl w1.heap.size)).2
  have H1 := Lib.hid G1.out.symm
  have C1 := Lib.hid (hc.alloc (.cells kzero.cells.toArray 27))
  have K1 := Lib.hid (blk_alloc w1 27 kzero.cells)
  have L1 := Lib.hid (R0.out.only ho ZG.out).lt
  have R1 := Lib.hid ((R0.out.only ho ZG.out).alloc (.cells kzero.cells.toArray 27))
  have O1 := Lib.hid ((O0.out.trans ho).alloc (.cells kzero.cells.toArray 27))
  have S1 := Lib.hid (Nat.le_of_lt L1.out)
  clear hc ho
  go_wp2_with (refine wpList_store_ky rfl _ _ rfl w1.heap.size kzero k rfl rfl K1.out rfl KO.out.ml ?_; intro w2 K2 OS; have C2 := Lib.hid (C1.out.only OS.out G1.out Q1.out); have R2 := Lib.hid (R1.out.only OS.out (Nat.ne_of_lt L1.out)); have O2 := Lib.hid (O1.out.new OS.out S1.out); have c2 := K2.out.cell (kc0 k); clear OS)
  refine (HV.out _ C2.out).mono ?_
  rintro rr w3 ⟨rfl, hc, ho⟩
  have G3 := Lib.hid (hc.far (Nat.le_refl w3.heap.size)).1
  have Q3 := Lib.hid (hc.far (Nat.le_refl w3.heap.size)).2
  have C3 := Lib.hid (hc.alloc (.cells vzero.cells.toArray 30))
  have V3 := Lib.hid (blk_alloc w3 30 vzero.cells)
  have M3 := Lib.hid (K2.out.only ho H1.out).lt
  have L3 := Lib.hid (R2.out.only ho ZG.out).lt
  have K3 := Lib.hid ((K2.out.only ho H1.out).alloc (.cells vzero.cells.toArray 30))
  have R3 := Lib.hid ((R2.out.only ho ZG.out).alloc (.cells vzero.cells.toArray 30))
  have O3 := Lib.hid ((O2.out.trans ho).alloc (.cells vzero.cells.toArray 30))
  have S3 := Lib.hid (Nat.le_of_lt L3.out)
  clear hc ho c2
  go_wp2_with (refine wpList_store_vl rfl _ _ rfl w3.heap.size vzero v rfl rfl V3.out rfl VO.out.tl ?_; intro w4 V4 OS; have C4 := Lib.hid (C3.out.only OS.out G3.out Q3.out); have K4 := Lib.hid (K3.out.only OS.out (Nat.ne_of_lt M3.out)); have R4 := Lib.hid (R3.out.only OS.out (Nat.ne_of_lt L3.out)); have O4 := Lib.hid (O3.out.new OS.out S3.out); clear OS)
  refine (curErrK_is g R e2 l2 _ C4.out).mono ?_
  rintro rr w5 ⟨rfl, rfl⟩
  subst he
  have AO := Lib.hid (show (⟨k, v⟩ : Am).Ok from ⟨KO.out, VO.out⟩)
  go_wp2_with (first
    | refine wpList_load_ky rfl _ rfl w1.heap.size 0 k rfl K4.out.range KO.out.ml ?_
    | refine wpList_load_vl rfl _ rfl w3.heap.size 0 v rfl V4.out.range VO.out.tl ?_
    | refine wpList_build rfl 32 _ rfl [(0, .agg k.cells.toArray), (1, .agg v.cells.toArray)] rfl _ (built32_2 ⟨k, v⟩ AO.out) ?_
    | (refine wpList_store_am rfl _ _ rfl w.heap.size azero ⟨k, v⟩ rfl rfl R4.out azero_ok AO.out ?_; intro wz KZ OZ))
  refine bodyPost_ret (results_am rfl _ _ w.heap.size ⟨k, v⟩ rfl KZ.out AO.out) rfl ?_
  exact ⟨rfl, C4.out.only OZ.out GZ.out RZ.out, O4.out.new OZ.out (Nat.le_refl _)⟩
theorem rByte_bad {l : List Int} {e : Int} (h : M.rByte l = .bad e) : e ≠ 0 := by
  cases l with
  | nil => simp only [M.rByte, M.Got.bad.injEq] at h; omega
  | cons c r => simp [M.rByte] at h
theorem rByte_fine {l r : List Int} {c : Int} (hb : M.Bytes l) (h : M.rByte l = .got c r) : (0 ≤ c ∧ c < 256) ∧ M.Bytes r := by
  have h1 := gate_byte (e := 0) hb
  have h2 := rst_byte (e := 0) hb
  rw [M.gate_ok, h] at h1 h2
  exact ⟨h1, h2⟩
theorem rNum_fine {most : Int} {l r : List Int} {x : Int} (hb : M.Bytes l) (hm : 0 ≤ most) (h : M.rNum most l = .got x r) : (0 ≤ x ∧ x ≤ most) ∧ M.Bytes r := by
  have h1 := gate_num (e := 0) (most := most) hb hm
  have h2 := rst_num (e := 0) (most := most) hb
  rw [M.gate_ok, h] at h1 h2
  exact ⟨h1, h2⟩
theorem rName_fine {l r m : List Int} (hb : M.Bytes l) (h : M.rName l = .got m r) : (m.length = 8 ∧ M.Bytes m) ∧ M.Bytes r := by
  have h0 : ((M.gate 0 (M.rName l)).val M.zero8).length = 8 := name_len
  have h1 := name_ok (e := 0) hb
  have h2 := rst_name (e := 0) hb
  rw [M.gate_ok, h] at h0 h1 h2
  exact ⟨⟨h0, h1⟩, h2⟩
theorem rKey_fine {l : List Int} (hb : M.Bytes l) : (∃ e, rKey l = .bad e ∧ e ≠ 0) ∨ ∃ k r, rKey l = .got k r ∧ k.Ok ∧ M.Bytes r := by
  unfold rKey
  cases h1 : M.rByte l with
  | bad e => exact .inl ⟨e, rfl, rByte_bad h1⟩
  | got s l1 =>
    obtain ⟨hs, b1⟩ := rByte_fine hb h1
    simp only
    split
    · exact .inl ⟨3, rfl, by decide⟩
    · cases h2 : M.rNum 65535 l1 with
      | bad e => exact .inl ⟨e, rfl, rNum_err h2⟩
      | got c l2 =>
        obtain ⟨hc, b2⟩ := rNum_fine b1 (by decide) h2
        simp only
        split
        · exact .inr ⟨_, _, rfl, ⟨rfl, zero8_bytes, by show (0 : Int) ≤ 4; decide, by show (4 : Int) < 256; decide, hc.1, by show c < 65536; omega, by show (0 : Int) ≤ 0; decide, by show (0 : Int) < 256; decide, by show (0 : Int) ≤ 0; decide, by show (0 : Int) < 4294967296; decide⟩, b2⟩
        · cases h3 : M.rName l2 with
          | bad e => exact .inl ⟨e, rfl, rName_bad h3⟩
          | got m l3 =>
            obtain ⟨hm, b3⟩ := rName_fine b2 h3
            simp only
            split
            · exact .inl ⟨3, rfl, by decide⟩
            · cases h4 : M.rByte l3 with
              | bad e => exact .inl ⟨e, rfl, rByte_bad h4⟩
              | got r l4 =>
                obtain ⟨hr, b4⟩ := rByte_fine b3 h4
                simp only
                split
                · exact .inl ⟨2, rfl, by decide⟩
                · split
                  · cases h5 : M.rNum 4294967295 l4 with
                    | bad e => exact .inl ⟨e, rfl, rNum_err h5⟩
                    | got q l5 =>
                      obtain ⟨hq, b5⟩ := rNum_fine b4 (by decide) h5
                      simp only
                      split
                      · exact .inl ⟨3, rfl, by decide⟩
                      · exact .inr ⟨_, _, rfl, ⟨hm.1, hm.2, by show (0 : Int) ≤ 1; decide, by show (1 : Int) < 256; decide, hc.1, by show c < 65536; omega, hr.1, hr.2, hq.1, by show q < 4294967296; omega⟩, b5⟩
                  · exact .inr ⟨_, _, rfl, ⟨hm.1, hm.2, hs.1, hs.2, hc.1, by show c < 65536; omega, hr.1, hr.2, by show (0 : Int) ≤ 0; decide, by show (0 : Int) < 4294967296; decide⟩, b4⟩
theorem rVal_bad {s e : Int} {l : List Int} (h : rVal s l = .bad e) : e ≠ 0 := by
  unfold rVal at h
  split at h
  · cases h1 : M.rByte l with
    | bad e' => rw [h1] at h; cases h; exact rByte_bad h1
    | got c r =>
      rw [h1] at h
      simp only at h
      split at h
      · cases h
      · cases h; decide
  · split at h
    · cases h1 : M.rNum 1099511627775 l with
      | bad e' => rw [h1] at h; cases h; exact rNum_err h1
      | got x r =>
        rw [h1] at h
        simp only at h
        split at h
        · cases h; decide
        · split at h
          · cases h; decide
          · cases h2 : M.rName r with
            | bad e' => rw [h2] at h; cases h; exact rName_bad h2
            | got m r' => rw [h2] at h; cases h
    · cases h1 : M.rNum 4294967295 l with
      | bad e' => rw [h1] at h; cases h; exact rNum_err h1
      | got x r =>
        rw [h1] at h
        simp only at h
        split at h
        · cases h; decide
        · cases h
theorem aread_is (g : Nat) (R : Option Nat) (l : List Int) (w : World) (h : CurAt w g R 0 l) :
    Calls Tryz.prog 12 #[.pointer (some ⟨g, 0, none⟩)] w (ReadsA w g R ((rAtom l).val azero) (rAtom l).err (rAtom l).rst) := by
  have hk := fun W (hW : CurAt W g R 0 l) => kread_is g R l W hW
  rcases rKey_fine h.bytes with ⟨e, hq, he⟩ | ⟨k, r, hq, ko, kb⟩
  · rw [hq] at hk
    have ha : rAtom l = .bad e := by unfold rAtom; rw [hq]
    rw [ha]
    exact ard_bad g R l [] [] kzero vzero e e w h (Lib.hid kzero_ok) (Lib.hid vzero_ok) (Lib.hid hk) (Lib.hid fun W hW => rv0 g R e [] W hW) he
  · rw [hq] at hk
    obtain ⟨v, p, hf, vo, hv⟩ := readVal_is k.s (rKey_sort hq) g R r kb
    by_cases hp : p.1 = 0
    · cases hr : rVal k.s r with
      | bad e => rw [hr] at hf; exact absurd (hf.err.symm.trans hp) (rVal_bad hr)
      | got v' r' =>
        rw [hr] at hf
        have ha : rAtom l = .got ⟨k, v'⟩ r' := by unfold rAtom; rw [hq]; simp only; rw [hr]
        rw [ha]
        have e1 : v = v' := hf.val hp
        have e2 : p.2 = r' := hf.rst
        have e3 : p.1 = 0 := hp
        subst e1
        have := ard_ok g R l r p.2 k v 0 p.1 w h (Lib.hid ko) (Lib.hid vo) (Lib.hid hk) (Lib.hid hv) hp
        rw [e2, e3] at this
        exact this
    · cases hr : rVal k.s r with
      | got v' r' => rw [hr] at hf; exact absurd hf.err hp
      | bad e =>
        rw [hr] at hf
        have ha : rAtom l = .bad e := by unfold rAtom; rw [hq]; simp only; rw [hr]
        rw [ha]
        have e2 : p.2 = [] := hf.rst
        have e3 : p.1 = e := hf.err
        have := ard_bad g R l r p.2 k v 0 p.1 w h (Lib.hid ko) (Lib.hid vo) (Lib.hid hk) (Lib.hid hv) hp
        rw [e2, e3] at this
        exact this
end Go.Proofs.YteggjihhjdeieaaGreat
