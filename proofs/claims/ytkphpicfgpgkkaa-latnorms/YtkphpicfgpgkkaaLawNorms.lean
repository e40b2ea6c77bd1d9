/- The contract of the law LatNorms. -/
import Derived.Test.YtkphpicfgpgkkaaAlive
namespace Go.Proofs.Ytkphpicfgpgkkaa
open Go.RowKit

theorem wpList_eq_vl {ops : Array Oper} {rest : List Oper} {op : Oper} {a : Act} {w : World} {Q : Exit → Act → World → Prop} (hgd : op.guard = none) (x y : Operand) (t : TypeId) (ho : op.op = .binOp .eql 32 x y t) (A B : Vl) (b : Bool) (hx : a.eval x = .agg A.cells.toArray) (hy : a.eval y = .agg B.cells.toArray) (hA : A.Ok) (hB : B.Ok) (hb : decide (A = B) = b)
    (hk : wpList Try.prog ops Q rest (a.put op.dst (.bool b)) w) : wpList Try.prog ops Q (op :: rest) a w :=
  wpList_val hgd _ (by rw [exec_eq_vl x y t ho A B hx hy hA.tl hB.tl, hb]) hk
set_option maxRecDepth 100000 in
set_option maxHeartbeats 4000000 in
theorem latNorms_is (A : Option Addr) (n cap : Nat) (l : List Am) (k : Ky) (w : World) (h : RowV w A n cap l) (hk : k.Ok) : Calls Try.prog 3 #[.slice A n cap, .agg k.cells.toArray] w fun e w' => e = .returned (.bool true) ∧ Below w.heap.size w w' := by
  have H := Lib.hid h
  have B1 := Lib.hid (new_below w (.cells k.cells.toArray 28))
  have K1 := Lib.hid (blk_alloc w 28 k.cells)
  have HK := Lib.hid hk
  have hv0 := zero30
  clear h hk
  by_cases hn : n ≤ 60
  · have hd : decide ((60 : Int) < (n : Int)) = false := decide_eq_false (by omega)
    have HN := Lib.hid hn
    clear hn
    go_enter Try.func3, Try.ntmps3
    go_wp2_with (first
      | refine wpList_load_ky rfl _ rfl w.heap.size 0 k rfl K1.out.range HK.out.ml ?_)
    obtain ⟨o, ho⟩ : ∃ o, gt l k = o := ⟨_, rfl⟩
    have HO := Lib.hid ho
    have OO := Lib.hid (show (o.getD vzero).Ok from getD_ok (by rw [← ho]; exact (gt_ok H.out.ok).o k))
    clear ho
    refine (findP_is A n cap l k o _ (H.out.below B1.out) HK.out (by have := HN.out; omega) (by have := HN.out; omega) HO).mono ?_
    rintro e w1 ⟨rfl, b1⟩
    have B2 := Lib.hid (step_ B1.out b1)
    have K2 := Lib.hid (K1.out.below b1)
    have Z2 := Lib.hid (blk_alloc w1 32 vzero.cells)
    clear b1
    go_wp2_with (first
      | (refine wpList_store_vl rfl _ _ rfl w1.heap.size vzero (o.getD vzero) rfl rfl Z2.out rfl OO.out.tl ?_; intro w2 N2 O2; have B3 := Lib.hid (step_ B2.out (box_below O2.out)); have K3 := Lib.hid (K2.out.below (box_below O2.out)))
      | refine wpList_load_ky rfl _ rfl w.heap.size 0 k rfl K3.out.range HK.out.ml ?_)
    refine (refFind_is A n cap l k o _ (H.out.below B3.out) HK.out (by have := HN.out; omega) HO).mono ?_
    rintro e w3 ⟨rfl, b3⟩
    have B4 := Lib.hid (step_ B3.out b3)
    have N4 := Lib.hid (N2.out.below b3)
    have Z4 := Lib.hid (blk_alloc w3 32 vzero.cells)
    clear b3
    obtain ⟨rb, hrb⟩ : ∃ rb, rightR l = rb := ⟨_, rfl⟩
    have RB := Lib.hid hrb
    clear hrb
    go_wp2_with (first
      | (refine wpList_store_vl rfl _ _ rfl w3.heap.size vzero (o.getD vzero) rfl rfl Z4.out rfl OO.out.tl ?_; intro w4 N5 O4; have B5 := Lib.hid (step_ B4.out (box_below O4.out)); have N6 := Lib.hid (N4.out.below (box_below O4.out))))
    refine (rightR_is A n cap l rb _ (H.out.below B5.out) (by have := HN.out; omega) RB).mono ?_
    rintro e w5 ⟨rfl, b5⟩
    have B6 := Lib.hid (step_ B5.out b5)
    have P5 := Lib.hid (N5.out.below b5)
    have P6 := Lib.hid (N6.out.below b5)
    clear b5
    go_wp2_with fail
    refine (refRightR_is A n cap l rb _ (H.out.below B6.out) (by have := HN.out; omega) RB).mono ?_
    rintro e w6 ⟨rfl, b6⟩
    have B7 := Lib.hid (step_ B6.out b6)
    have P7 := Lib.hid (P5.out.below b6)
    have P8 := Lib.hid (P6.out.below b6)
    have hbb : (rb == rb) = true := by simp
    clear b6
    go_wp2_with fail
    refine (norm_is A n cap l _ (H.out.below B7.out) (by have := HN.out; omega)).mono ?_
    rintro e w7 ⟨⟨A7, n7, c7, rfl, r7⟩, b7⟩
    have B8 := Lib.hid (step_ B7.out b7)
    have R7 := Lib.hid r7
    have P9 := Lib.hid (P7.out.below b7)
    have P10 := Lib.hid (P8.out.below b7)
    have L7 := Lib.hid (show n7 ≤ 5000 by have := norm_len l; rw [r7.len, H.out.len] at this; have := HN.out; omega)
    clear b7 r7
    go_wp2_with fail
    refine (refNorm_is A n cap l _ (H.out.below B8.out) (by have := HN.out; omega)).mono ?_
    rintro e w8 ⟨⟨A8, n8, c8, rfl, r8⟩, b8⟩
    have B9 := Lib.hid (step_ B8.out b8)
    have R8 := Lib.hid r8
    have R7' := Lib.hid (R7.out.below b8)
    have P11 := Lib.hid (P9.out.below b8)
    have P12 := Lib.hid (P10.out.below b8)
    clear b8 r8
    go_wp2_with fail
    refine (rows_is _ _ _ _ _ _ _ _ true _ R7'.out R8.out L7.out (Lib.hid (decide_eq_true rfl))).mono ?_
    rintro e w9 ⟨rfl, b9⟩
    have B10 := Lib.hid (step_ B9.out b9)
    have P13 := Lib.hid (P11.out.below b9)
    have P14 := Lib.hid (P12.out.below b9)
    have hob : (o.isSome == o.isSome) = true := by simp
    clear b9
    go_wp2_with (first
      | (refine wanted_on rfl ?_; refine wpList_load_vl rfl _ rfl w3.heap.size 0 (o.getD vzero) rfl P13.out.range OO.out.tl ?_)
      | (refine wanted_on rfl ?_; refine wpList_load_vl rfl _ rfl w1.heap.size 0 (o.getD vzero) rfl P14.out.range OO.out.tl ?_)
      | (refine wanted_on rfl ?_; refine wpList_eq_vl rfl _ _ _ rfl (o.getD vzero) (o.getD vzero) true rfl rfl OO.out OO.out (decide_eq_true rfl) ?_))
    refine (alive_is _).mono ?_
    rintro e w10 ⟨rfl, b10⟩
    have B11 := Lib.hid (step_ B10.out b10)
    clear b10
    go_wp2_with fail
    go_ret
    exact ⟨rfl, B11.out⟩
  · have hd : decide ((60 : Int) < (n : Int)) = true := decide_eq_true (by omega)
    clear hn
    go_enter Try.func3, Try.ntmps3
    go_wp2_with fail
    refine (alive_is _).mono ?_
    rintro e w2 ⟨rfl, b2⟩
    have B2 := Lib.hid (step_ B1.out b2)
    clear b2
    go_wp2_with fail
    go_ret
    exact ⟨rfl, B2.out⟩
end Go.Proofs.Ytkphpicfgpgkkaa
