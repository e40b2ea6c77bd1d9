/- The contract of Write of package atom. The contracts of encoding, Bytes and Size of package atom, and of alive. The contracts of need, readVal and Read of package atom. -/
import Derived.Test.YtnpbmihbmilkbaaGreatG16
import Derived.Test.YtnpbmihbmilkbaaGreatG17
import Derived.Test.YtnpbmihbmilkbaaGreatG19
import Derived.Test.YtnpbmihbmilkbaaGreatG18
namespace Go.Proofs.YtnpbmihbmilkbaaGreat
open Go.RowKit
theorem aenc1 {a : Am} (h : a.k.s = 1) : aenc a = kenc a.k ++ [a.v.n] := by unfold aenc venc; rw [if_pos h]
theorem aenc4 {a : Am} (h : a.k.s = 4) : aenc a = kenc a.k ++ (M.var a.v.n ++ (((M.text a.v.t).length : Int) :: M.text a.v.t)) := by unfold aenc venc; rw [if_neg (by omega), if_pos h]
theorem aenc2 {a : Am} (h1 : ¬ a.k.s = 1) (h4 : ¬ a.k.s = 4) : aenc a = kenc a.k ++ M.var a.v.n := by unfold aenc venc; rw [if_neg h1, if_neg h4]
set_option maxRecDepth 100000 in
theorem awrite1 (g : Nat) (acc : List Int) (a : Am) (w : World) (h : WrAt w g acc) (ha : a.Ok) (hn : acc.length + 60 ≤ 30000) (hs : a.k.s = 1) (hx : a.v.n < 256) :
    Calls Tryz.prog 104 #[.pointer (some ⟨g, 0, none⟩), .agg a.cells.toArray] w (WroteK w g (acc ++ aenc a)) := by
  have Q0 := Lib.hid (blk_alloc w 50 a.cells)
  have B0 := Lib.hid (new_below w (.cells a.cells.toArray 50))
  have HL := Lib.hid h.lt
  have HW := Lib.hid (h.below B0.out)
  have HA := Lib.hid ha
  have NE := Lib.hid (show w.heap.size ≠ g from fun e => Nat.lt_irrefl _ (e ▸ h.lt))
  have KL := Lib.hid (kenc_len ha.k)
  have VN := Lib.hid (M.var_ten a.v.n ha.v.n0 ha.v.n1)
  have n0 := ha.v.n0
  have HS := Lib.hid hs
  have wx : IntKind.u8.wrap a.v.n = a.v.n := by rw [IntKind.wrap_u8]; omega
  clear h ha hs
  go_enter Tryz.func104, Tryz.ntmps104
  go_wp2_with (refine wpList_load_ky rfl _ rfl w.heap.size 0 a.k rfl Q0.out.ak HA.out.k.ml ?_)
  refine (kwrite_is g acc a.k _ HW.out HA.out.k (by omega)).mono ?_
  rintro r w1 ⟨⟨y, rfl⟩, hw1, hb1, hk1⟩
  have H1 := Lib.hid hw1
  have Q1 := Lib.hid (hk1 _ _ _ (by decide) NE.out Q0.out)
  have B1 := Lib.hid (below_step B0.out hb1 (Nat.le_of_lt HL.out))
  have K1 := Lib.hid ((KeepT.of_below B0.out).trans hk1)
  have b0 := Q1.out.cell (ac0 a)
  rw [HS.out] at b0
  have b12 := Q1.out.cell (ac12 HA.out)
  clear hw1 hb1 hk1
  go_wp2_with fail
  refine (wbyteK_is g (acc ++ kenc a.k) a.v.n _ H1.out n0 hx (by have := KL.out; simp; omega)).mono ?_
  rintro r w2 ⟨⟨y, rfl⟩, hw2, hb2, hk2⟩
  have H2 := Lib.hid hw2
  have B2 := Lib.hid (B1.out.trans hb2)
  have K2 := Lib.hid (K1.out.trans hk2)
  clear hw2 hb2 hk2
  go_wp2_with fail
  go_end0
  exact ⟨⟨_, rfl⟩, by rw [aenc1 HS.out, ← List.append_assoc]; exact H2.out, B2.out, K2.out⟩
set_option maxRecDepth 100000 in
theorem awrite2 (g : Nat) (acc : List Int) (a : Am) (w : World) (h : WrAt w g acc) (ha : a.Ok) (hn : acc.length + 60 ≤ 30000) (hs : a.k.s = 2) :
    Calls Tryz.prog 104 #[.pointer (some ⟨g, 0, none⟩), .agg a.cells.toArray] w (WroteK w g (acc ++ aenc a)) := by
  have Q0 := Lib.hid (blk_alloc w 50 a.cells)
  have B0 := Lib.hid (new_below w (.cells a.cells.toArray 50))
  have HL := Lib.hid h.lt
  have HW := Lib.hid (h.below B0.out)
  have HA := Lib.hid ha
  have NE := Lib.hid (show w.heap.size ≠ g from fun e => Nat.lt_irrefl _ (e ▸ h.lt))
  have KL := Lib.hid (kenc_len ha.k)
  have VN := Lib.hid (M.var_ten a.v.n ha.v.n0 ha.v.n1)
  have n0 := ha.v.n0
  have HS := Lib.hid hs
  clear h ha hs
  go_enter Tryz.func104, Tryz.ntmps104
  go_wp2_with (refine wpList_load_ky rfl _ rfl w.heap.size 0 a.k rfl Q0.out.ak HA.out.k.ml ?_)
  refine (kwrite_is g acc a.k _ HW.out HA.out.k (by omega)).mono ?_
  rintro r w1 ⟨⟨y, rfl⟩, hw1, hb1, hk1⟩
  have H1 := Lib.hid hw1
  have Q1 := Lib.hid (hk1 _ _ _ (by decide) NE.out Q0.out)
  have B1 := Lib.hid (below_step B0.out hb1 (Nat.le_of_lt HL.out))
  have K1 := Lib.hid ((KeepT.of_below B0.out).trans hk1)
  have b0 := Q1.out.cell (ac0 a)
  rw [HS.out] at b0
  have b12 := Q1.out.cell (ac12 HA.out)
  clear hw1 hb1 hk1
  go_wp2_with fail
  refine (wnumK_is g (acc ++ kenc a.k) a.v.n _ H1.out n0 HA.out.v.n1 (by have := KL.out; simp; omega)).mono ?_
  rintro r w2 ⟨⟨y, rfl⟩, hw2, hb2, hk2⟩
  have H2 := Lib.hid hw2
  have Q2 := Lib.hid (hk2 _ _ _ (by decide) NE.out Q1.out)
  have B2 := Lib.hid (B1.out.trans hb2)
  have K2 := Lib.hid (K1.out.trans hk2)
  clear hw2 hb2 hk2 b0 b12
  go_wp2_with fail
  go_end0
  exact ⟨⟨_, rfl⟩, by rw [aenc2 (by have := HS.out; omega) (by have := HS.out; omega), ← List.append_assoc]; exact H2.out, B2.out, K2.out⟩
set_option maxRecDepth 100000 in
theorem awrite3 (g : Nat) (acc : List Int) (a : Am) (w : World) (h : WrAt w g acc) (ha : a.Ok) (hn : acc.length + 60 ≤ 30000) (hs : a.k.s = 3) :
    Calls Tryz.prog 104 #[.pointer (some ⟨g, 0, none⟩), .agg a.cells.toArray] w (WroteK w g (acc ++ aenc a)) := by
  have Q0 := Lib.hid (blk_alloc w 50 a.cells)
  have B0 := Lib.hid (new_below w (.cells a.cells.toArray 50))
  have HL := Lib.hid h.lt
  have HW := Lib.hid (h.below B0.out)
  have HA := Lib.hid ha
  have NE := Lib.hid (show w.heap.size ≠ g from fun e => Nat.lt_irrefl _ (e ▸ h.lt))
  have KL := Lib.hid (kenc_len ha.k)
  have VN := Lib.hid (M.var_ten a.v.n ha.v.n0 ha.v.n1)
  have n0 := ha.v.n0
  have HS := Lib.hid hs
  clear h ha hs
  go_enter Tryz.func104, Tryz.ntmps104
  go_wp2_with (refine wpList_load_ky rfl _ rfl w.heap.size 0 a.k rfl Q0.out.ak HA.out.k.ml ?_)
  refine (kwrite_is g acc a.k _ HW.out HA.out.k (by omega)).mono ?_
  rintro r w1 ⟨⟨y, rfl⟩, hw1, hb1, hk1⟩
  have H1 := Lib.hid hw1
  have Q1 := Lib.hid (hk1 _ _ _ (by decide) NE.out Q0.out)
  have B1 := Lib.hid (below_step B0.out hb1 (Nat.le_of_lt HL.out))
  have K1 := Lib.hid ((KeepT.of_below B0.out).trans hk1)
  have b0 := Q1.out.cell (ac0 a)
  rw [HS.out] at b0
  have b12 := Q1.out.cell (ac12 HA.out)
  clear hw1 hb1 hk1
  go_wp2_with fail
  refine (wnumK_is g (acc ++ kenc a.k) a.v.n _ H1.out n0 HA.out.v.n1 (by have := KL.out; simp; omega)).mono ?_
  rintro r w2 ⟨⟨y, rfl⟩, hw2, hb2, hk2⟩
  have H2 := Lib.hid hw2
  have Q2 := Lib.hid (hk2 _ _ _ (by decide) NE.out Q1.out)
  have B2 := Lib.hid (B1.out.trans hb2)
  have K2 := Lib.hid (K1.out.trans hk2)
  clear hw2 hb2 hk2 b0 b12
  go_wp2_with fail
  go_end0
  exact ⟨⟨_, rfl⟩, by rw [aenc2 (by have := HS.out; omega) (by have := HS.out; omega), ← List.append_assoc]; exact H2.out, B2.out, K2.out⟩
set_option maxRecDepth 100000 in
theorem awrite4 (g : Nat) (acc : List Int) (a : Am) (w : World) (h : WrAt w g acc) (ha : a.Ok) (hn : acc.length + 60 ≤ 30000) (hs : a.k.s = 4) :
    Calls Tryz.prog 104 #[.pointer (some ⟨g, 0, none⟩), .agg a.cells.toArray] w (WroteK w g (acc ++ aenc a)) := by
  have Q0 := Lib.hid (blk_alloc w 50 a.cells)
  have B0 := Lib.hid (new_below w (.cells a.cells.toArray 50))
  have HL := Lib.hid h.lt
  have HW := Lib.hid (h.below B0.out)
  have HA := Lib.hid ha
  have NE := Lib.hid (show w.heap.size ≠ g from fun e => Nat.lt_irrefl _ (e ▸ h.lt))
  have KL := Lib.hid (kenc_len ha.k)
  have VN := Lib.hid (M.var_ten a.v.n ha.v.n0 ha.v.n1)
  have n0 := ha.v.n0
  have HS := Lib.hid hs
  clear h ha hs
  go_enter Tryz.func104, Tryz.ntmps104
  go_wp2_with (refine wpList_load_ky rfl _ rfl w.heap.size 0 a.k rfl Q0.out.ak HA.out.k.ml ?_)
  refine (kwrite_is g acc a.k _ HW.out HA.out.k (by omega)).mono ?_
  rintro r w1 ⟨⟨y, rfl⟩, hw1, hb1, hk1⟩
  have H1 := Lib.hid hw1
  have Q1 := Lib.hid (hk1 _ _ _ (by decide) NE.out Q0.out)
  have B1 := Lib.hid (below_step B0.out hb1 (Nat.le_of_lt HL.out))
  have K1 := Lib.hid ((KeepT.of_below B0.out).trans hk1)
  have b0 := Q1.out.cell (ac0 a)
  rw [HS.out] at b0
  have b12 := Q1.out.cell (ac12 HA.out)
  clear hw1 hb1 hk1
  go_wp2_with fail
  refine (wnumK_is g (acc ++ kenc a.k) a.v.n _ H1.out n0 HA.out.v.n1 (by have := KL.out; simp; omega)).mono ?_
  rintro r w2 ⟨⟨y, rfl⟩, hw2, hb2, hk2⟩
  have H2 := Lib.hid hw2
  have Q2 := Lib.hid (hk2 _ _ _ (by decide) NE.out Q1.out)
  have B2 := Lib.hid (B1.out.trans hb2)
  have K2 := Lib.hid (K1.out.trans hk2)
  clear hw2 hb2 hk2 b0 b12
  go_wp2_with (refine wpList_load_nm rfl _ rfl w.heap.size 13 a.v.t rfl (Q2.out.avt HA.out) HA.out.v.tl ?_)
  refine (wnameK_is g (acc ++ kenc a.k ++ M.var a.v.n) a.v.t _ H2.out HA.out.v.tl HA.out.v.tb (by have := KL.out; have := VN.out; simp; omega)).mono ?_
  rintro r w3 ⟨⟨y, rfl⟩, hw3, hb3, hk3⟩
  have H3 := Lib.hid hw3
  have B3 := Lib.hid (B2.out.trans hb3)
  have K3 := Lib.hid (K2.out.trans hk3)
  clear hw3 hb3 hk3
  go_wp2_with fail
  go_end0
  exact ⟨⟨_, rfl⟩, by rw [aenc4 HS.out]; simpa only [List.append_assoc] using H3.out, B3.out, K3.out⟩
theorem awrite_is (g : Nat) (acc : List Int) (a : Am) (w : World) (h : WrAt w g acc) (ha : a.Ok) (hn : acc.length + 60 ≤ 30000) (hr : a.right = true) :
    Calls Tryz.prog 104 #[.pointer (some ⟨g, 0, none⟩), .agg a.cells.toArray] w (WroteK w g (acc ++ aenc a)) := by
  unfold Am.right at hr
  rw [Bool.and_eq_true] at hr
  rcases right_sort hr.1 with hs | hs | hs | hs
  · have hv := hr.2
    unfold valB at hv
    rw [if_pos hs] at hv
    exact awrite1 g acc a w h ha hn hs (by have := (between_parts hv).2.1; omega)
  · exact awrite2 g acc a w h ha hn hs
  · exact awrite3 g acc a w h ha hn hs
  · exact awrite4 g acc a w h ha hn hs
end Go.Proofs.YtnpbmihbmilkbaaGreat
namespace Go.Proofs.YtnpbmihbmilkbaaGreat
open Go.RowKit
set_option maxRecDepth 100000 in
theorem encoding_is (a : Am) (w : World) (ha : a.Ok) : Calls Tryz.prog 73 #[.agg a.cells.toArray] w fun e w' => e = .returned (.func (.func 105) #[.pointer (some ⟨w.heap.size + 1, 0, none⟩)] #[]) ∧ WrAt w' (w.heap.size + 1) (abytes a) ∧ Below w.heap.size w w' := by
  have S0 := Lib.hid (as_new w a)
  have HA := Lib.hid ha
  have hz : (w.alloc (.cells a.cells.toArray 50)).heap.size = w.heap.size + 1 := by simp
  have NW := new_is (w.alloc (.cells a.cells.toArray 50))
  rw [hz] at NW
  have HN := Lib.hid NW
  clear ha hz NW
  cases hr : a.right with
  | false =>
    have HR := Lib.hid hr
    have E := Lib.hid (show abytes a = [] by unfold abytes; rw [hr]; rfl)
    clear hr
    go_enter Tryz.func73, Tryz.ntmps73
    go_wp2_with fail
    refine (HN.out).mono ?_
    rintro e w1 ⟨rfl, hw, hb⟩
    have W1 := Lib.hid hw
    have S1 := Lib.hid (S0.out.below (by rw [show (w.alloc (.cells a.cells.toArray 50)).heap.size = w.heap.size + 1 by simp]; exact hb))
    clear hw hb HN
    go_wp2_with (refine wpList_load_am rfl _ rfl w.heap.size a rfl S1.out.blk HA.out ?_)
    refine (aright_is a false _ HA.out HR).mono ?_
    rintro e w2 ⟨rfl, b2⟩
    have W2 := Lib.hid (W1.out.below b2)
    have S2 := Lib.hid (S1.out.below b2)
    clear b2
    go_wp2_with fail
    go_ret
    exact ⟨rfl, by rw [E.out]; exact W2.out, S2.out.bel⟩
  | true =>
    have HR := Lib.hid hr
    have E := Lib.hid (show abytes a = aenc a by unfold abytes; rw [hr]; rfl)
    clear hr
    go_enter Tryz.func73, Tryz.ntmps73
    go_wp2_with fail
    refine (HN.out).mono ?_
    rintro e w1 ⟨rfl, hw, hb⟩
    have W1 := Lib.hid hw
    have S1 := Lib.hid (S0.out.below (by rw [show (w.alloc (.cells a.cells.toArray 50)).heap.size = w.heap.size + 1 by simp]; exact hb))
    clear hw hb HN
    go_wp2_with (refine wpList_load_am rfl _ rfl w.heap.size a rfl S1.out.blk HA.out ?_)
    refine (aright_is a true _ HA.out HR).mono ?_
    rintro e w2 ⟨rfl, b2⟩
    have W2 := Lib.hid (W1.out.below b2)
    have S2 := Lib.hid (S1.out.below b2)
    clear b2
    go_wp2_with (refine wpList_load_am rfl _ rfl w.heap.size a rfl S2.out.blk HA.out ?_)
    refine (awrite_is (w.heap.size + 1) [] a _ W2.out HA.out (by simp) HR.out).mono ?_
    rintro e w3 ⟨⟨y, rfl⟩, hw, hb, _⟩
    have W3 := Lib.hid hw
    have B3 := Lib.hid (S2.out.bel.trans (hb.mono (Nat.le_succ _)))
    clear hw hb
    go_wp2_with fail
    go_ret
    exact ⟨rfl, by rw [E.out]; exact W3.out, B3.out⟩
set_option maxRecDepth 100000 in
theorem abytes_is (a : Am) (w : World) (ha : a.Ok) : Calls Tryz.prog 53 #[.agg a.cells.toArray] w (GivesBytes w (abytes a)) := by
  have S0 := Lib.hid (as_new w a)
  have HA := Lib.hid ha
  have HL := Lib.hid (abytes_len ha)
  have hz : (w.alloc (.cells a.cells.toArray 50)).heap.size = w.heap.size + 1 := by simp
  have NW := encoding_is a (w.alloc (.cells a.cells.toArray 50)) ha
  rw [hz] at NW
  have HN := Lib.hid NW
  clear ha hz NW
  go_enter Tryz.func53, Tryz.ntmps53
  go_wp2_with (refine wpList_load_am rfl _ rfl w.heap.size a rfl S0.out.blk HA.out ?_)
  refine (HN.out).mono ?_
  rintro e w1 ⟨rfl, hw, hb⟩
  have W1 := Lib.hid hw
  have S1 := Lib.hid (S0.out.below (by rw [show (w.alloc (.cells a.cells.toArray 50)).heap.size = w.heap.size + 1 by simp]; exact hb))
  clear hw hb HN
  go_wp2_with fail
  refine (out_is (w.heap.size + 1 + 1) (abytes a) _ W1.out (by have := HL.out; omega)).mono ?_
  rintro e w2 ⟨v, rfl, hv, hb⟩
  have V2 := Lib.hid hv
  have B2 := Lib.hid (step_ S1.out.bel hb)
  clear hv hb
  go_wp2_with fail
  go_ret
  exact ⟨_, rfl, V2.out, B2.out⟩
/-- The chapter's example. -/
def ex : Am := ⟨⟨1, 1, [97, 0, 0, 0, 0, 0, 0, 0], 2, 3⟩, ⟨1, M.zero8⟩⟩
theorem built24_1 (x : Int) : Tryz.prog.built 40 [(0, .int .u8 x)] = some (nm [x, 0, 0, 0, 0, 0, 0, 0]) := by kernel_rfl
end Go.Proofs.YtnpbmihbmilkbaaGreat
namespace Go.Proofs.YtnpbmihbmilkbaaGreat
open Go.RowKit
def u1 (l : List Int) : M.Got Int := M.gate 0 (M.rNum 1099511627775 l)
def q1 (l : List Int) : Int × List Int := fs (decide ((u1 l).val 0 % 256 < 16)) 2 ((u1 l).err, (u1 l).rst)
def q2 (l : List Int) : Int × List Int := fs (decide (0 < (u1 l).val 0 / 256 % 4294967296)) 3 ((q1 l).1, (q1 l).2)
end Go.Proofs.YtnpbmihbmilkbaaGreat
