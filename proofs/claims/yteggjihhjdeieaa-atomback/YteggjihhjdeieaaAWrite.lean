/- The contract of Write of package atom. -/
import Derived.Test.YteggjihhjdeieaaARight
import Derived.Test.YteggjihhjdeieaaWriterK
namespace Go.Proofs.Yteggjihhjdeieaa
open Go.RowKit

theorem aenc1 {a : Am} (h : a.k.s = 1) : aenc a = kenc a.k ++ [a.v.n] := by unfold aenc venc; rw [if_pos h]
theorem aenc4 {a : Am} (h : a.k.s = 4) : aenc a = kenc a.k ++ (M.var a.v.n ++ (((M.text a.v.t).length : Int) :: M.text a.v.t)) := by unfold aenc venc; rw [if_neg (by omega), if_pos h]
theorem aenc2 {a : Am} (h1 : ¬ a.k.s = 1) (h4 : ¬ a.k.s = 4) : aenc a = kenc a.k ++ M.var a.v.n := by unfold aenc venc; rw [if_neg h1, if_neg h4]
set_option maxRecDepth 100000 in
theorem awrite1 (g : Nat) (acc : List Int) (a : Am) (w : World) (h : WrAt w g acc) (ha : a.Ok) (hn : acc.length + 60 ≤ 30000) (hs : a.k.s = 1) (hx : a.v.n < 256) :
    Calls Try.prog 17 #[.pointer (some ⟨g, 0, none⟩), .agg a.cells.toArray] w (WroteK w g (acc ++ aenc a)) := by
  have Q0 := Lib.hid (blk_alloc w 32 a.cells)
  have B0 := Lib.hid (new_below w (.cells a.cells.toArray 32))
  have HL := Lib.hid h.lt
  have HW := Lib.hid (h.below B0.out)
  have HA := Lib.hid ha
  have NE := Lib.hid (show w.heap.size ≠ g from fun e => Nat.lt_irrefl _ (e ▸ h.lt))
  have KL := Lib.hid (kenc_len ha.k)
  have VN := Lib.hid (M.var_ten a.v.n ha.v.n0 ha.v.n1)
  have n0 := ha.v.n0
  have HS := Lib.hid hs
  have wx : IntKind.u8.wrap a.v.n = a.v.n := by rw [IntKind.wrap_u8]; omega
  clear h ha hs
  go_enter Try.func17, Try.ntmps17
  go_wp2_with (refine wpList_load_ky rfl _ rfl w.heap.size 0 a.k rfl Q0.out.ak HA.out.k.ml ?_)
  refine (kwrite_is g acc a.k _ HW.out HA.out.k (by omega)).mono ?_
  rintro r w1 ⟨⟨y, rfl⟩, hw1, hb1, hk1⟩
  have H1 := Lib.hid hw1
  have Q1 := Lib.hid (hk1 _ _ _ (by decide) NE.out Q0.out)
  have B1 := Lib.hid (below_step B0.out hb1 (Nat.le_of_lt HL.out))
  have K1 := Lib.hid ((KeepT.of_below B0.out).trans hk1)
  have b0 := Q1.out.cell (ac0 a)
  rw [HS.out] at b0
  have b12 := Q1.out.cell (ac12 HA.out)
  clear hw1 hb1 hk1
  go_wp2_with fail
  refine (wbyteK_is g (acc ++ kenc a.k) a.v.n _ H1.out n0 hx (by have := KL.out; simp; omega)).mono ?_
  rintro r w2 ⟨⟨y, rfl⟩, hw2, hb2, hk2⟩
  have H2 := Lib.hid hw2
  have B2 := Lib.hid (B1.out.trans hb2)
  have K2 := Lib.hid (K1.out.trans hk2)
  clear hw2 hb2 hk2
  go_wp2_with fail
  go_end0
  exact ⟨⟨_, rfl⟩, by rw [aenc1 HS.out, ← List.append_assoc]; exact H2.out, B2.out, K2.out⟩
set_option maxRecDepth 100000 in
theorem awrite2 (g : Nat) (acc : List Int) (a : Am) (w : World) (h : WrAt w g acc) (ha : a.Ok) (hn : acc.length + 60 ≤ 30000) (hs : a.k.s = 2) :
    Calls Try.prog 17 #[.pointer (some ⟨g, 0, none⟩), .agg a.cells.toArray] w (WroteK w g (acc ++ aenc a)) := by
  have Q0 := Lib.hid (blk_alloc w 32 a.cells)
  have B0 := Lib.hid (new_below w (.cells a.cells.toArray 32))
  have HL := Lib.hid h.lt
  have HW := Lib.hid (h.below B0.out)
  have HA := Lib.hid ha
  have NE := Lib.hid (show w.heap.size ≠ g from fun e => Nat.lt_irrefl _ (e ▸ h.lt))
  have KL := Lib.hid (kenc_len ha.k)
  have VN := Lib.hid (M.var_ten a.v.n ha.v.n0 ha.v.n1)
  have n0 := ha.v.n0
  have HS := Lib.hid hs

  clear h ha hs
  go_enter Try.func17, Try.ntmps17
  go_wp2_with (refine wpList_load_ky rfl _ rfl w.heap.size 0 a.k rfl Q0.out.ak HA.out.k.ml ?_)
  refine (kwrite_is g acc a.k _ HW.out HA.out.k (by omega)).mono ?_
  rintro r w1 ⟨⟨y, rfl⟩, hw1, hb1, hk1⟩
  have H1 := Lib.hid hw1
  have Q1 := Lib.hid (hk1 _ _ _ (by decide) NE.out Q0.out)
  have B1 := Lib.hid (below_step B0.out hb1 (Nat.le_of_lt HL.out))
  have K1 := Lib.hid ((KeepT.of_below B0.out).trans hk1)
  have b0 := Q1.out.cell (ac0 a)
  rw [HS.out] at b0
  have b12 := Q1.out.cell (ac12 HA.out)
  clear hw1 hb1 hk1
  go_wp2_with fail
  refine (wnumK_is g (acc ++ kenc a.k) a.v.n _ H1.out n0 HA.out.v.n1 (by have := KL.out; simp; omega)).mono ?_
  rintro r w2 ⟨⟨y, rfl⟩, hw2, hb2, hk2⟩
  have H2 := Lib.hid hw2
  have Q2 := Lib.hid (hk2 _ _ _ (by decide) NE.out Q1.out)
  have B2 := Lib.hid (B1.out.trans hb2)
  have K2 := Lib.hid (K1.out.trans hk2)
  clear hw2 hb2 hk2 b0 b12
  go_wp2_with fail
  go_end0
  exact ⟨⟨_, rfl⟩, by rw [aenc2 (by have := HS.out; omega) (by have := HS.out; omega), ← List.append_assoc]; exact H2.out, B2.out, K2.out⟩
set_option maxRecDepth 100000 in
theorem awrite3 (g : Nat) (acc : List Int) (a : Am) (w : World) (h : WrAt w g acc) (ha : a.Ok) (hn : acc.length + 60 ≤ 30000) (hs : a.k.s = 3) :
    Calls Try.prog 17 #[.pointer (some ⟨g, 0, none⟩), .agg a.cells.toArray] w (WroteK w g (acc ++ aenc a)) := by
  have Q0 := Lib.hid (blk_alloc w 32 a.cells)
  have B0 := Lib.hid (new_below w (.cells a.cells.toArray 32))
  have HL := Lib.hid h.lt
  have HW := Lib.hid (h.below B0.out)
  have HA := Lib.hid ha
  have NE := Lib.hid (show w.heap.size ≠ g from fun e => Nat.lt_irrefl _ (e ▸ h.lt))
  have KL := Lib.hid (kenc_len ha.k)
  have VN := Lib.hid (M.var_ten a.v.n ha.v.n0 ha.v.n1)
  have n0 := ha.v.n0
  have HS := Lib.hid hs

  clear h ha hs
  go_enter Try.func17, Try.ntmps17
  go_wp2_with (refine wpList_load_ky rfl _ rfl w.heap.size 0 a.k rfl Q0.out.ak HA.out.k.ml ?_)
  refine (kwrite_is g acc a.k _ HW.out HA.out.k (by omega)).mono ?_
  rintro r w1 ⟨⟨y, rfl⟩, hw1, hb1, hk1⟩
  have H1 := Lib.hid hw1
  have Q1 := Lib.hid (hk1 _ _ _ (by decide) NE.out Q0.out)
  have B1 := Lib.hid (below_step B0.out hb1 (Nat.le_of_lt HL.out))
  have K1 := Lib.hid ((KeepT.of_below B0.out).trans hk1)
  have b0 := Q1.out.cell (ac0 a)
  rw [HS.out] at b0
  have b12 := Q1.out.cell (ac12 HA.out)
  clear hw1 hb1 hk1
  go_wp2_with fail
  refine (wnumK_is g (acc ++ kenc a.k) a.v.n _ H1.out n0 HA.out.v.n1 (by have := KL.out; simp; omega)).mono ?_
  rintro r w2 ⟨⟨y, rfl⟩, hw2, hb2, hk2⟩
  have H2 := Lib.hid hw2
  have Q2 := Lib.hid (hk2 _ _ _ (by decide) NE.out Q1.out)
  have B2 := Lib.hid (B1.out.trans hb2)
  have K2 := Lib.hid (K1.out.trans hk2)
  clear hw2 hb2 hk2 b0 b12
  go_wp2_with fail
  go_end0
  exact ⟨⟨_, rfl⟩, by rw [aenc2 (by have := HS.out; omega) (by have := HS.out; omega), ← List.append_assoc]; exact H2.out, B2.out, K2.out⟩
set_option maxRecDepth 100000 in
theorem awrite4 (g : Nat) (acc : List Int) (a : Am) (w : World) (h : WrAt w g acc) (ha : a.Ok) (hn : acc.length + 60 ≤ 30000) (hs : a.k.s = 4) :
    Calls Try.prog 17 #[.pointer (some ⟨g, 0, none⟩), .agg a.cells.toArray] w (WroteK w g (acc ++ aenc a)) := by
  have Q0 := Lib.hid (blk_alloc w 32 a.cells)
  have B0 := Lib.hid (new_below w (.cells a.cells.toArray 32))
  have HL := Lib.hid h.lt
  have HW := Lib.hid (h.below B0.out)
  have HA := Lib.hid ha
  have NE := Lib.hid (show w.heap.size ≠ g from fun e => Nat.lt_irrefl _ (e ▸ h.lt))
  have KL := Lib.hid (kenc_len ha.k)
  have VN := Lib.hid (M.var_ten a.v.n ha.v.n0 ha.v.n1)
  have n0 := ha.v.n0
  have HS := Lib.hid hs

  clear h ha hs
  go_enter Try.func17, Try.ntmps17
  go_wp2_with (refine wpList_load_ky rfl _ rfl w.heap.size 0 a.k rfl Q0.out.ak HA.out.k.ml ?_)
  refine (kwrite_is g acc a.k _ HW.out HA.out.k (by omega)).mono ?_
  rintro r w1 ⟨⟨y, rfl⟩, hw1, hb1, hk1⟩
  have H1 := Lib.hid hw1
  have Q1 := Lib.hid (hk1 _ _ _ (by decide) NE.out Q0.out)
  have B1 := Lib.hid (below_step B0.out hb1 (Nat.le_of_lt HL.out))
  have K1 := Lib.hid ((KeepT.of_below B0.out).trans hk1)
  have b0 := Q1.out.cell (ac0 a)
  rw [HS.out] at b0
  have b12 := Q1.out.cell (ac12 HA.out)
  clear hw1 hb1 hk1
  go_wp2_with fail
  refine (wnumK_is g (acc ++ kenc a.k) a.v.n _ H1.out n0 HA.out.v.n1 (by have := KL.out; simp; omega)).mono ?_
  rintro r w2 ⟨⟨y, rfl⟩, hw2, hb2, hk2⟩
  have H2 := Lib.hid hw2
  have Q2 := Lib.hid (hk2 _ _ _ (by decide) NE.out Q1.out)
  have B2 := Lib.hid (B1.out.trans hb2)
  have K2 := Lib.hid (K1.out.trans hk2)
  clear hw2 hb2 hk2 b0 b12
  go_wp2_with (refine wpList_load_nm rfl _ rfl w.heap.size 13 a.v.t rfl (Q2.out.avt HA.out) HA.out.v.tl ?_)
  refine (wnameK_is g (acc ++ kenc a.k ++ M.var a.v.n) a.v.t _ H2.out HA.out.v.tl HA.out.v.tb (by have := KL.out; have := VN.out; simp; omega)).mono ?_
  rintro r w3 ⟨⟨y, rfl⟩, hw3, hb3, hk3⟩
  have H3 := Lib.hid hw3
  have B3 := Lib.hid (B2.out.trans hb3)
  have K3 := Lib.hid (K2.out.trans hk3)
  clear hw3 hb3 hk3
  go_wp2_with fail
  go_end0
  exact ⟨⟨_, rfl⟩, by rw [aenc4 HS.out]; simpa only [List.append_assoc] using H3.out, B3.out, K3.out⟩
theorem awrite_is (g : Nat) (acc : List Int) (a : Am) (w : World) (h : WrAt w g acc) (ha : a.Ok) (hn : acc.length + 60 ≤ 30000) (hr : a.right = true) :
    Calls Try.prog 17 #[.pointer (some ⟨g, 0, none⟩), .agg a.cells.toArray] w (WroteK w g (acc ++ aenc a)) := by
  unfold Am.right at hr
  rw [Bool.and_eq_true] at hr
  rcases right_sort hr.1 with hs | hs | hs | hs
  · have hv := hr.2
    unfold valB at hv
    rw [if_pos hs] at hv
    exact awrite1 g acc a w h ha hn hs (by have := (between_parts hv).2.1; omega)
  · exact awrite2 g acc a w h ha hn hs
  · exact awrite3 g acc a w h ha hn hs
  · exact awrite4 g acc a w h ha hn hs
end Go.Proofs.Yteggjihhjdeieaa
