/- slices.breakPatternsOrdered at uint16, bits.Len, slices.nextPowerOfTwo, (*xorshift).Next. Written by wip/tools/srtX_r17.py. -/
import Derived.Test.YtnpbmihbmilkbaaGreatG01
import Derived.Test.YtnpbmihbmilkbaaGreatG32
import Derived.Test.YtnpbmihbmilkbaaGreatG37
import Derived.Test.YtnpbmihbmilkbaaGreatG23
import Derived.Sort.LotD1
namespace Go.Proofs.YtnpbmihbmilkbaaGreat
open Go.RowKit
theorem len_is (x : Nat) (w : World) (hx : x ≤ 10000) : Calls Tryz.prog 55 #[.int .u64 (x : Int)] w fun e w' => (∃ k : Nat, e = .returned (.int .i64 (k : Int)) ∧ k ≤ 64) ∧ w' = w := by
  refine (Any.bits_Len (SlLaysF0.n15.bits (P := Tryz.prog) (ρ := Tryz.sortAm_ren) { Tryz.sortAm with }) (x : Int) w (by omega) (by omega)).mono ?_
  rintro e w' ⟨rfl, rfl⟩
  exact ⟨⟨_, rfl, Lib.bitLen_le _ 64 (by omega) (by have : (2 : Nat) ^ 64 = 18446744073709551616 := by decide
                                                    omega)⟩, rfl⟩
theorem pow2_is (x : Nat) (w : World) (h0 : 0 < x) (hx : x ≤ 10000) : Calls Tryz.prog 107 #[.int .i64 (x : Int)] w fun e w' => (∃ M : Nat, e = .returned (.int .u64 (M : Int)) ∧ 1 ≤ M ∧ M ≤ 2 * x) ∧ w' = w := by
  refine (AnyF.nextPowerOfTwo (P := Tryz.prog) (ρ := Tryz.sortAm_ren) { Tryz.sortAm with } x (by omega) w).mono ?_
  rintro e w' ⟨rfl, rfl⟩
  refine ⟨⟨_, rfl, ?_, ?_⟩, rfl⟩
  · rw [Nat.one_shiftLeft]; exact Nat.pos_of_ne_zero (by simp)
  · rw [Nat.one_shiftLeft]; exact «Sort».two_pow_bitsLen_le h0
def Rnd (w : World) (s : Nat) : Prop := ∃ v : Nat, Blk w s 137 [.int .u64 (v : Int)] ∧ v < 18446744073709551616
theorem Rnd.below {w w' : World} {s : Nat} (h : Rnd w s) (hb : Below w.heap.size w w') : Rnd w' s := by obtain ⟨v, h1, h2⟩ := h; exact ⟨v, h1.below hb, h2⟩
theorem Rnd.onlyR {w w' : World} {s g : Nat} (h : Rnd w s) (ho : Only g w w') (hg : g ≠ s) : Rnd w' s := by obtain ⟨v, h1, h2⟩ := h; exact ⟨v, h1.only ho (fun e => hg e.symm), h2⟩
theorem Only.off {g s : Nat} {w a b : World} (h : Only g w a) (k : Only s a b) (hs : w.heap.size ≤ s) : Only g w b :=
  ⟨k.os.trans h.os, k.tape.trans h.tape, k.output.trans h.output, Nat.le_trans h.size k.size, fun i hi hn => (k.block i (Nat.lt_of_lt_of_le hi h.size) (by omega)).trans (h.block i hi hn)⟩
theorem next_is (s : Nat) (w : World) (h : Rnd w s) : Calls Tryz.prog 108 #[.pointer (some ⟨s, 0, none⟩)] w fun e w' => (∃ v : Nat, e = .returned (.int .u64 (v : Int)) ∧ v < 18446744073709551616) ∧ Rnd w' s ∧ Only s w w' := by
  obtain ⟨v, h1, h2⟩ := h
  refine (AnyF.xorshift_Next (P := Tryz.prog) (ρ := Tryz.sortAm_ren) { Tryz.sortAm with } s 0 v h2 w (h1.cell (i := 0) rfl) (h1.frozen 0)).mono ?_
  rintro e w' ⟨rfl, rfl⟩
  have hb := h1.set 0 (.int .u64 («Sort».xorNextN v : Nat))
  obtain ⟨w5, ew5⟩ : ∃ z, z = w.setCell ⟨s, 0, none⟩ (.int .u64 («Sort».xorNextN v : Nat)) := ⟨_, rfl⟩
  have bd := below_drewN (Below.refl w5.heap.size w5) 3
  have os5 : Only s w w5 := by rw [ew5]; exact Only.set s 0 w _
  rw [← ew5] at hb ⊢
  exact ⟨⟨_, rfl, «Sort».xorNextN_lt v h2⟩, ⟨_, hb.below bd, «Sort».xorNextN_lt v h2⟩, os5.trans ⟨bd.os, bd.tape, bd.output, bd.size, fun k hk _ => bd.block k hk⟩⟩
theorem exec_subu {o : Oper} {a : Act} {w : World} (x : Operand) (ho : o.op = .binOp .sub 85 x (.const (.int .u64 1)) 85) (M : Nat) (hx : a.eval x = .int .u64 (M : Int)) (h1 : 1 ≤ M) (h2 : M ≤ 100000) :
    (execOp a.eval o).run Tryz.prog w = .ok (.value (.int .u64 ((M - 1 : Nat) : Int))) w := by
  have H := Lib.hid (show IntKind.u64.wrap ((M : Int) - 1) = ((M - 1 : Nat) : Int) by
    have e : (M : Int) - 1 = ((M - 1 : Nat) : Int) := by omega
    rw [e]
    show (((M - 1 : Nat) : Int) % 18446744073709551616) = _
    omega)
  unfold execOp
  simp only [ho, hx]
  go_simp
  exact H.out
theorem exec_andu {o : Oper} {a : Act} {w : World} (x y : Operand) (ho : o.op = .binOp .and 85 x y 85) (v M r : Nat) (hx : a.eval x = .int .u64 (v : Int)) (hy : a.eval y = .int .u64 (M : Int)) (hv : v < 18446744073709551616) (hM : M ≤ 100000) (hr : r = v &&& M) :
    (execOp a.eval o).run Tryz.prog w = .ok (.value (.int .u64 (r : Int))) w := by
  have H := Lib.hid (show bits .and .u64 (v : Int) (M : Int) = (r : Int) by
    rw [u64_and _ _ (by omega) (by omega) (by omega) (by omega), hr]; rfl)
  clear hr
  unfold execOp
  simp only [ho, hx, hy]
  go_simp
  exact H.out
theorem exec_conv64 {o : Oper} {a : Act} {w : World} (x : Operand) (ho : o.op = .convert 85 3 x) (r : Nat) (hx : a.eval x = .int .u64 (r : Int)) (hr : r ≤ 100000) :
    (execOp a.eval o).run Tryz.prog w = .ok (.value (.int .i64 (r : Int))) w := by
  have H := Lib.hid (wrap_small (z := (r : Int)) (by omega) (by omega))
  unfold execOp
  simp only [ho, hx]
  go_simp
  try exact H.out
theorem exec_convs {o : Oper} {a : Act} {w : World} (x : Operand) (ho : o.op = .convert 3 137 x) (r : Nat) (hx : a.eval x = .int .i64 (r : Int)) (hr : r ≤ 100000) :
    (execOp a.eval o).run Tryz.prog w = .ok (.value (.int .u64 (r : Int))) w := by
  have H := Lib.hid (show IntKind.u64.wrap (r : Int) = (r : Int) by
    show ((r : Int) % 18446744073709551616) = _
    omega)
  unfold execOp
  simp only [ho, hx]
  go_simp
  try exact H.out
set_option maxRecDepth 100000 in
set_option maxHeartbeats 16000000 in
theorem break_is (B g n cap a b : Nat) (l : List Int) (w : World) (h : OwnN w B (.slice (some ⟨g, 0, none⟩) n cap) l) (hb : b ≤ n) (hn : n ≤ 10000) (hab : a + 12 < b) (hg : g < w.heap.size) :
    Calls Tryz.prog 76 #[(.slice (some ⟨g, 0, none⟩) n cap), .int .i64 (a : Int), .int .i64 (b : Int)] w (GivesS B g n cap a b l w fun _ => True) := by
  obtain ⟨L, hL⟩ : ∃ z, z = b - a := ⟨_, rfl⟩
  obtain ⟨q, hq⟩ : ∃ z, z = L / 4 := ⟨_, rfl⟩
  obtain ⟨k0, hk0⟩ : ∃ z, z = a + 2 * q - 1 := ⟨_, rfl⟩
  have HL := Lib.hid hL
  have HQ := Lib.hid hq
  have HK := Lib.hid hk0
  have hb1 : 12 < L ∧ L ≤ 10000 ∧ a + L ≤ b ∧ b ≤ a + L ∧ 3 ≤ q ∧ 4 * q ≤ L ∧ k0 + 1 ≤ a + 2 * q ∧ a + 2 * q ≤ k0 + 1 := by omega
  obtain ⟨w1, ew1⟩ : ∃ z, z = w.alloc (.cells #[.int .u64 0] 137) := ⟨_, rfl⟩
  obtain ⟨s, es⟩ : ∃ z, z = w.heap.size := ⟨_, rfl⟩
  have N1 := Lib.hid (show Blk w1 s 137 [.int .u64 0] by rw [ew1, es]; exact blk_alloc w 137 [.int .u64 0])
  have B1 := Lib.hid (show Below w.heap.size w w1 by rw [ew1]; exact new_below w (.cells #[.int .u64 0] 137))
  have D1 := Lib.hid (h.below B1.out)
  have O1 := Lib.hid (show Only g w w1 from ⟨B1.out.os, B1.out.tape, B1.out.output, B1.out.size, fun k hk _ => B1.out.block k hk⟩)
  have GS := Lib.hid (show g ≠ s by omega)
  have SS := Lib.hid es
  have EW := Lib.hid ew1
  clear hL hq hk0 ew1 es h
  have hz8 : decide ((8 : Int) ≤ (L : Int)) = true := decide_eq_true (by omega)
  go_enter Tryz.func76, Tryz.ntmps76
  go_wp2_with (first
    | (refine wpList_val rfl _ (exec_subn _ _ rfl (b : Int) (a : Int) (L : Int) rfl rfl (by have := HL.out; omega) (by omega)) ?_)
    | (refine wpList_val rfl _ (exec_ge _ _ rfl (L : Int) 8 true rfl rfl hz8) ?_)
    | (refine wpList_val rfl _ (exec_convs _ rfl L rfl (by omega)) ?_)
    | (rw [← EW.out, ← SS.out]; refine wpList_store_i Tryz.sizeOf137 rfl _ _ rfl s (.int .u64 0) (L : Int) rfl rfl N1.out ?_; intro w2 N2 X2))
  have RB := Lib.hid (show Rnd w2 s from ⟨L, N2.out, by omega⟩)
  have O2 := Lib.hid (O1.out.off X2.out (by have := SS.out; omega))
  have D2 := Lib.hid (D1.out.onlyS X2.out GS.out)
  clear N2 X2 N1 B1
  refine (pow2_is L w2 (by omega) (by omega)).mono ?_
  rintro e w3 ⟨⟨M, rfl, hM1, hM2⟩, rfl⟩
  go_wp2_with (first
    | (refine wpList_val rfl _ (exec_quo4 _ rfl L q rfl HQ.out (by omega)) ?_)
    | (refine wpList_val rfl _ (exec_muln _ _ rfl (q : Int) 2 ((2 * q : Nat) : Int) rfl rfl (by omega) (by omega)) ?_)
    | (refine wpList_val rfl _ (exec_addn _ _ rfl (a : Int) ((2 * q : Nat) : Int) ((a + 2 * q : Nat) : Int) rfl rfl (by omega) (by omega)) ?_)
    | (refine wpList_val rfl _ (exec_subn _ _ rfl ((a + 2 * q : Nat) : Int) 1 (k0 : Int) rfl rfl (by omega) (by omega)) ?_))
  go_loopw [9] (fun t wr => ∃ (k : Nat) (m : List Int), t = .int .i64 (k : Int) ∧ (k0 ≤ k ∧ k ≤ k0 + 3) ∧ OwnN wr B (.slice (some ⟨g, 0, none⟩) n cap) m ∧ Per a b l m ∧ Rnd wr s ∧ Only g w wr) (fun t _ => k0 + 4 - (intOf t).toNat)
  case atStart => exact ⟨k0, l, rfl, by omega, D2.out, .refl l, RB.out, O2.out⟩
  case round =>
    obtain ⟨k, m, rfl, hk, hm, hp, hr, ho⟩ := hrel
    have DM := Lib.hid hm
    have PM := Lib.hid hp
    have RM := Lib.hid hr
    have OM := Lib.hid ho
    have ML := Lib.hid hm.len
    clear hm hp hr ho
    by_cases hlt : k ≤ k0 + 2
    · have hg1 : decide ((k : Int) ≤ ((a + 2 * q + 1 : Nat) : Int)) = true := decide_eq_true (by omega)
      go_wp2_with (first
        | (refine wpList_val rfl _ (exec_quo4 _ rfl L q rfl HQ.out (by omega)) ?_)
        | (refine wpList_val rfl _ (exec_muln _ _ rfl (q : Int) 2 ((2 * q : Nat) : Int) rfl rfl (by omega) (by omega)) ?_)
        | (refine wpList_val rfl _ (exec_addn _ _ rfl (a : Int) ((2 * q : Nat) : Int) ((a + 2 * q : Nat) : Int) rfl rfl (by omega) (by omega)) ?_)
        | (refine wpList_val rfl _ (exec_addn _ _ rfl ((a + 2 * q : Nat) : Int) 1 ((a + 2 * q + 1 : Nat) : Int) rfl rfl (by omega) (by omega)) ?_)
        | (refine wpList_val rfl _ (exec_le _ _ rfl (k : Int) ((a + 2 * q + 1 : Nat) : Int) true rfl rfl hg1) ?_))
      clear hg1
      refine (next_is s _ RM.out).mono ?_
      rintro e w5 ⟨⟨v, rfl, hv⟩, r5, o5⟩
      have RB := Lib.hid r5
      have OB := Lib.hid (OM.out.off o5 (by have := SS.out; omega))
      have DB := Lib.hid (DM.out.onlyS o5 GS.out)
      clear r5 o5
      obtain ⟨z, hz⟩ : ∃ y, y = v &&& (M - 1) := ⟨_, rfl⟩
      have HZ := Lib.hid hz
      have hz2 : z ≤ M - 1 := by rw [hz]; exact Nat.and_le_right
      clear hz
      by_cases hzl : L ≤ z
      · have hg2 : decide ((L : Int) ≤ (z : Int)) = true := decide_eq_true (by omega)
        obtain ⟨r, hr⟩ : ∃ y, y = z - L := ⟨_, rfl⟩
        have HR := Lib.hid hr
        have hrl : r < L := by omega
        clear hr
        go_wp2_with (first
          | (refine wpList_val rfl _ (exec_subu _ rfl M rfl hM1 (by omega)) ?_)
          | (refine wpList_val rfl _ (exec_andu _ _ rfl v (M - 1) z rfl rfl hv (by omega) HZ.out) ?_)
          | (refine wpList_val rfl _ (exec_conv64 _ rfl z rfl (by omega)) ?_)
          | (refine wpList_val rfl _ (exec_ge _ _ rfl (z : Int) (L : Int) true rfl rfl hg2) ?_)
          | (refine wpList_val rfl _ (exec_subn _ _ rfl (z : Int) (L : Int) (r : Int) rfl rfl (by have := HR.out; omega) (by omega)) ?_))
        have E1 := Lib.hid (DB.out.below (below_drew (Below.refl _ _)))
        refine wp_region_noPanic ?_
        refine wp_region_held_drew (S := fun _ => True) (by kernel_rfl) trivial (fun _ => ?_)
        refine tkm 0 rfl trivial ?_; try simp only [Act.put, stA, stZ, stS]
        refine tkm 1 rfl trivial ?_; try simp only [Act.put, stA, stZ, stS]
        refine tkm 2 rfl trivial ?_; try simp only [Act.put, stA, stZ, stS]
        refine tkm 3 rfl trivial ?_; try simp only [Act.put, stA, stZ, stS]
        refine tkm 4 rfl trivial ?_; try simp only [Act.put, stA, stZ, stS]
        refine tkv 5 (.int .i64 ((a + r : Nat) : Int)) rfl (fun W hW => exec_addn (.tmp 50) (.tmp 51) rfl (a : Int) (r : Int) ((a + r : Nat) : Int) rfl rfl (by omega) (by omega)) trivial ?_; try simp only [Act.put, stA, stZ, stS]
        refine tkm 6 rfl trivial ?_; try simp only [Act.put, stA, stZ, stS]
        refine tkm 7 rfl trivial ?_; try simp only [Act.put, stA, stZ, stS]
        refine tkm 8 rfl trivial ?_; try simp only [Act.put, stA, stZ, stS]
        refine tkv 9 (.int .i64 ((a + r : Nat) : Int)) rfl (fun W hW => exec_addn (.tmp 54) (.tmp 55) rfl (a : Int) (r : Int) ((a + r : Nat) : Int) rfl rfl (by omega) (by omega)) trivial ?_; try simp only [Act.put, stA, stZ, stS]
        refine tkv 10 (.pointer (some ⟨g, (a + r), none⟩)) rfl (fun W hW => exec_ixg Tryz.underlying24 (.tmp 53) (.tmp 56) rfl g n cap (a + r) ((a + r : Nat) : Int) rfl rfl (by omega) (by omega)) trivial ?_; try simp only [Act.put, stA, stZ, stS]
        refine tkm 12 rfl trivial ?_; try simp only [Act.put, stA, stZ, stS]
        refine tkm 13 rfl trivial ?_; try simp only [Act.put, stA, stZ, stS]
        refine tkv 14 (.pointer (some ⟨g, k, none⟩)) rfl (fun W hW => exec_ixg Tryz.underlying24 (.tmp 59) (.tmp 60) rfl g n cap k (k : Int) rfl rfl (by omega) (by omega)) trivial ?_; try simp only [Act.put, stA, stZ, stS]
        refine rdy [11, 15] ?_
        refine ready_val (arR rfl) rfl (.int .u64 (m.getD (a + r) 0)) _ (exec_load_num (.tmp 57) rfl g (a + r) (m.getD (a + r) 0) rfl (E1.out.cell (by have := E1.out.len; omega))) ⟨trivial, ?_⟩ ?_
        · try simp only [Act.put, stA, stZ, stS]
          refine rdy [15] ?_
          refine ready_val (arR rfl) rfl (.int .u64 (m.getD k 0)) _ (exec_load_num (.tmp 61) rfl g k (m.getD k 0) rfl (E1.out.cell (by have := E1.out.len; omega))) ⟨trivial, ?_⟩ AllReadyH.nil
          try simp only [Act.put, stA, stZ, stS]
          refine tkv 16 (.pointer (some ⟨g, k, none⟩)) rfl (fun W hW => exec_ixg Tryz.underlying24 (.tmp 47) (.tmp 48) rfl g n cap k (k : Int) rfl rfl (by omega) (by omega)) trivial ?_; try simp only [Act.put, stA, stZ, stS]
          refine rdy [17] ?_
          refine ready_skip (arR rfl) rfl _ (exec_store_num (.tmp 63) (.tmp 58) rfl g k (m.getD (a + r) 0) (.int .u64 (m.getD k 0)) rfl rfl (E1.out.cell (by have := E1.out.len; omega)) (E1.out.fz k)) ⟨trivial, ?_⟩ AllReadyH.nil
          have D1 := Lib.hid (E1.out.set k (m.getD (a + r) 0) (E1.out.ok.at_ (a + r)))
          skip
          try simp only [Act.put]
          refine tkv 18 (.pointer (some ⟨g, (a + r), none⟩)) rfl (fun W hW => exec_ixg Tryz.underlying24 (.tmp 49) (.tmp 52) rfl g n cap (a + r) ((a + r : Nat) : Int) rfl rfl (by omega) (by omega)) trivial ?_; try simp only [Act.put, stA, stZ, stS]
          refine rdy [19] ?_
          refine ready_skip (arR rfl) rfl _ (exec_store_num (.tmp 64) (.tmp 62) rfl g (a + r) (m.getD k 0) (.int .u64 ((m.set k (m.getD (a + r) 0)).getD (a + r) 0)) rfl rfl (D1.out.cell (by have := D1.out.len; omega)) (D1.out.fz (a + r))) ⟨trivial, ?_⟩ AllReadyH.nil
          have D2 := Lib.hid (D1.out.set (a + r) (m.getD k 0) (E1.out.ok.at_ k))
          try simp only [Act.put]
          refine wpAnyH_done (by kernel_rfl) ?_ _
          refine NoPanic.normal ?_
          go_wp2_with (refine wpList_val rfl _ (exec_addn _ _ rfl (k : Int) 1 ((k + 1 : Nat) : Int) rfl rfl (by omega) (by omega)) ?_)
          go_roundw
          case rel => exact ⟨k + 1, swp m k (a + r), rfl, by omega, D2.out, .swap PM.out (by omega) (by omega) (by omega) (by omega) (by have := ML.out; omega), RB.out.onlyR ((only_drew g _).trans ((Only.set g k _ _).trans (Only.set g (a + r) _ _))) GS.out, ((OB.out.trans (only_drew g _)).trans (Only.set g k _ _)).trans (Only.set g (a + r) _ _)⟩
          case measure => simp [intOf]; omega
        refine ready_val (arR rfl) rfl (.int .u64 (m.getD k 0)) _ (exec_load_num (.tmp 61) rfl g k (m.getD k 0) rfl (E1.out.cell (by have := E1.out.len; omega))) ⟨trivial, ?_⟩ AllReadyH.nil
        try simp only [Act.put, stA, stZ, stS]
        refine rdy [11] ?_
        refine ready_val (arR rfl) rfl (.int .u64 (m.getD (a + r) 0)) _ (exec_load_num (.tmp 57) rfl g (a + r) (m.getD (a + r) 0) rfl (E1.out.cell (by have := E1.out.len; omega))) ⟨trivial, ?_⟩ AllReadyH.nil
        try simp only [Act.put, stA, stZ, stS]
        refine tkv 16 (.pointer (some ⟨g, k, none⟩)) rfl (fun W hW => exec_ixg Tryz.underlying24 (.tmp 47) (.tmp 48) rfl g n cap k (k : Int) rfl rfl (by omega) (by omega)) trivial ?_; try simp only [Act.put, stA, stZ, stS]
        refine rdy [17] ?_
        refine ready_skip (arR rfl) rfl _ (exec_store_num (.tmp 63) (.tmp 58) rfl g k (m.getD (a + r) 0) (.int .u64 (m.getD k 0)) rfl rfl (E1.out.cell (by have := E1.out.len; omega)) (E1.out.fz k)) ⟨trivial, ?_⟩ AllReadyH.nil
        have D1 := Lib.hid (E1.out.set k (m.getD (a + r) 0) (E1.out.ok.at_ (a + r)))
        skip
        try simp only [Act.put]
        refine tkv 18 (.pointer (some ⟨g, (a + r), none⟩)) rfl (fun W hW => exec_ixg Tryz.underlying24 (.tmp 49) (.tmp 52) rfl g n cap (a + r) ((a + r : Nat) : Int) rfl rfl (by omega) (by omega)) trivial ?_; try simp only [Act.put, stA, stZ, stS]
        refine rdy [19] ?_
        refine ready_skip (arR rfl) rfl _ (exec_store_num (.tmp 64) (.tmp 62) rfl g (a + r) (m.getD k 0) (.int .u64 ((m.set k (m.getD (a + r) 0)).getD (a + r) 0)) rfl rfl (D1.out.cell (by have := D1.out.len; omega)) (D1.out.fz (a + r))) ⟨trivial, ?_⟩ AllReadyH.nil
        have D2 := Lib.hid (D1.out.set (a + r) (m.getD k 0) (E1.out.ok.at_ k))
        try simp only [Act.put]
        refine wpAnyH_done (by kernel_rfl) ?_ _
        refine NoPanic.normal ?_
        go_wp2_with (refine wpList_val rfl _ (exec_addn _ _ rfl (k : Int) 1 ((k + 1 : Nat) : Int) rfl rfl (by omega) (by omega)) ?_)
        go_roundw
        case rel => exact ⟨k + 1, swp m k (a + r), rfl, by omega, D2.out, .swap PM.out (by omega) (by omega) (by omega) (by omega) (by have := ML.out; omega), RB.out.onlyR ((only_drew g _).trans ((Only.set g k _ _).trans (Only.set g (a + r) _ _))) GS.out, ((OB.out.trans (only_drew g _)).trans (Only.set g k _ _)).trans (Only.set g (a + r) _ _)⟩
        case measure => simp [intOf]; omega
      · have hg2 : decide ((L : Int) ≤ (z : Int)) = false := decide_eq_false (by omega)
        obtain ⟨r, hr⟩ : ∃ y, y = z := ⟨_, rfl⟩
        have HR := Lib.hid hr
        have hrl : r < L := by omega
        clear hr
        go_wp2_with (first
          | (refine wpList_val rfl _ (exec_subu _ rfl M rfl hM1 (by omega)) ?_)
          | (refine wpList_val rfl _ (exec_andu _ _ rfl v (M - 1) r rfl rfl hv (by omega) (HR.out.trans HZ.out)) ?_)
          | (refine wpList_val rfl _ (exec_conv64 _ rfl r rfl (by omega)) ?_)
          | (refine wpList_val rfl _ (exec_ge _ _ rfl (r : Int) (L : Int) false rfl rfl (decide_eq_false (by omega))) ?_))
        have E1 := Lib.hid (DB.out.below (below_drew (Below.refl _ _)))
        refine wp_region_noPanic ?_
        refine wp_region_held_drew (S := fun _ => True) (by kernel_rfl) trivial (fun _ => ?_)
        refine tkm 0 rfl trivial ?_; try simp only [Act.put, stA, stZ, stS]
        refine tkm 1 rfl trivial ?_; try simp only [Act.put, stA, stZ, stS]
        refine tkm 2 rfl trivial ?_; try simp only [Act.put, stA, stZ, stS]
        refine tkm 3 rfl trivial ?_; try simp only [Act.put, stA, stZ, stS]
        refine tkm 4 rfl trivial ?_; try simp only [Act.put, stA, stZ, stS]
        refine tkv 5 (.int .i64 ((a + r : Nat) : Int)) rfl (fun W hW => exec_addn (.tmp 50) (.tmp 51) rfl (a : Int) (r : Int) ((a + r : Nat) : Int) rfl rfl (by omega) (by omega)) trivial ?_; try simp only [Act.put, stA, stZ, stS]
        refine tkm 6 rfl trivial ?_; try simp only [Act.put, stA, stZ, stS]
        refine tkm 7 rfl trivial ?_; try simp only [Act.put, stA, stZ, stS]
        refine tkm 8 rfl trivial ?_; try simp only [Act.put, stA, stZ, stS]
        refine tkv 9 (.int .i64 ((a + r : Nat) : Int)) rfl (fun W hW => exec_addn (.tmp 54) (.tmp 55) rfl (a : Int) (r : Int) ((a + r : Nat) : Int) rfl rfl (by omega) (by omega)) trivial ?_; try simp only [Act.put, stA, stZ, stS]
        refine tkv 10 (.pointer (some ⟨g, (a + r), none⟩)) rfl (fun W hW => exec_ixg Tryz.underlying24 (.tmp 53) (.tmp 56) rfl g n cap (a + r) ((a + r : Nat) : Int) rfl rfl (by omega) (by omega)) trivial ?_; try simp only [Act.put, stA, stZ, stS]
        refine tkm 12 rfl trivial ?_; try simp only [Act.put, stA, stZ, stS]
        refine tkm 13 rfl trivial ?_; try simp only [Act.put, stA, stZ, stS]
        refine tkv 14 (.pointer (some ⟨g, k, none⟩)) rfl (fun W hW => exec_ixg Tryz.underlying24 (.tmp 59) (.tmp 60) rfl g n cap k (k : Int) rfl rfl (by omega) (by omega)) trivial ?_; try simp only [Act.put, stA, stZ, stS]
        refine rdy [11, 15] ?_
        refine ready_val (arR rfl) rfl (.int .u64 (m.getD (a + r) 0)) _ (exec_load_num (.tmp 57) rfl g (a + r) (m.getD (a + r) 0) rfl (E1.out.cell (by have := E1.out.len; omega))) ⟨trivial, ?_⟩ ?_
        · try simp only [Act.put, stA, stZ, stS]
          refine rdy [15] ?_
          refine ready_val (arR rfl) rfl (.int .u64 (m.getD k 0)) _ (exec_load_num (.tmp 61) rfl g k (m.getD k 0) rfl (E1.out.cell (by have := E1.out.len; omega))) ⟨trivial, ?_⟩ AllReadyH.nil
          try simp only [Act.put, stA, stZ, stS]
          refine tkv 16 (.pointer (some ⟨g, k, none⟩)) rfl (fun W hW => exec_ixg Tryz.underlying24 (.tmp 47) (.tmp 48) rfl g n cap k (k : Int) rfl rfl (by omega) (by omega)) trivial ?_; try simp only [Act.put, stA, stZ, stS]
          refine rdy [17] ?_
          refine ready_skip (arR rfl) rfl _ (exec_store_num (.tmp 63) (.tmp 58) rfl g k (m.getD (a + r) 0) (.int .u64 (m.getD k 0)) rfl rfl (E1.out.cell (by have := E1.out.len; omega)) (E1.out.fz k)) ⟨trivial, ?_⟩ AllReadyH.nil
          have D1 := Lib.hid (E1.out.set k (m.getD (a + r) 0) (E1.out.ok.at_ (a + r)))
          skip
          try simp only [Act.put]
          refine tkv 18 (.pointer (some ⟨g, (a + r), none⟩)) rfl (fun W hW => exec_ixg Tryz.underlying24 (.tmp 49) (.tmp 52) rfl g n cap (a + r) ((a + r : Nat) : Int) rfl rfl (by omega) (by omega)) trivial ?_; try simp only [Act.put, stA, stZ, stS]
          refine rdy [19] ?_
          refine ready_skip (arR rfl) rfl _ (exec_store_num (.tmp 64) (.tmp 62) rfl g (a + r) (m.getD k 0) (.int .u64 ((m.set k (m.getD (a + r) 0)).getD (a + r) 0)) rfl rfl (D1.out.cell (by have := D1.out.len; omega)) (D1.out.fz (a + r))) ⟨trivial, ?_⟩ AllReadyH.nil
          have D2 := Lib.hid (D1.out.set (a + r) (m.getD k 0) (E1.out.ok.at_ k))
          try simp only [Act.put]
          refine wpAnyH_done (by kernel_rfl) ?_ _
          refine NoPanic.normal ?_
          go_wp2_with (refine wpList_val rfl _ (exec_addn _ _ rfl (k : Int) 1 ((k + 1 : Nat) : Int) rfl rfl (by omega) (by omega)) ?_)
          go_roundw
          case rel => exact ⟨k + 1, swp m k (a + r), rfl, by omega, D2.out, .swap PM.out (by omega) (by omega) (by omega) (by omega) (by have := ML.out; omega), RB.out.onlyR ((only_drew g _).trans ((Only.set g k _ _).trans (Only.set g (a + r) _ _))) GS.out, ((OB.out.trans (only_drew g _)).trans (Only.set g k _ _)).trans (Only.set g (a + r) _ _)⟩
          case measure => simp [intOf]; omega
        refine ready_val (arR rfl) rfl (.int .u64 (m.getD k 0)) _ (exec_load_num (.tmp 61) rfl g k (m.getD k 0) rfl (E1.out.cell (by have := E1.out.len; omega))) ⟨trivial, ?_⟩ AllReadyH.nil
        try simp only [Act.put, stA, stZ, stS]
        refine rdy [11] ?_
        refine ready_val (arR rfl) rfl (.int .u64 (m.getD (a + r) 0)) _ (exec_load_num (.tmp 57) rfl g (a + r) (m.getD (a + r) 0) rfl (E1.out.cell (by have := E1.out.len; omega))) ⟨trivial, ?_⟩ AllReadyH.nil
        try simp only [Act.put, stA, stZ, stS]
        refine tkv 16 (.pointer (some ⟨g, k, none⟩)) rfl (fun W hW => exec_ixg Tryz.underlying24 (.tmp 47) (.tmp 48) rfl g n cap k (k : Int) rfl rfl (by omega) (by omega)) trivial ?_; try simp only [Act.put, stA, stZ, stS]
        refine rdy [17] ?_
        refine ready_skip (arR rfl) rfl _ (exec_store_num (.tmp 63) (.tmp 58) rfl g k (m.getD (a + r) 0) (.int .u64 (m.getD k 0)) rfl rfl (E1.out.cell (by have := E1.out.len; omega)) (E1.out.fz k)) ⟨trivial, ?_⟩ AllReadyH.nil
        have D1 := Lib.hid (E1.out.set k (m.getD (a + r) 0) (E1.out.ok.at_ (a + r)))
        skip
        try simp only [Act.put]
        refine tkv 18 (.pointer (some ⟨g, (a + r), none⟩)) rfl (fun W hW => exec_ixg Tryz.underlying24 (.tmp 49) (.tmp 52) rfl g n cap (a + r) ((a + r : Nat) : Int) rfl rfl (by omega) (by omega)) trivial ?_; try simp only [Act.put, stA, stZ, stS]
        refine rdy [19] ?_
        refine ready_skip (arR rfl) rfl _ (exec_store_num (.tmp 64) (.tmp 62) rfl g (a + r) (m.getD k 0) (.int .u64 ((m.set k (m.getD (a + r) 0)).getD (a + r) 0)) rfl rfl (D1.out.cell (by have := D1.out.len; omega)) (D1.out.fz (a + r))) ⟨trivial, ?_⟩ AllReadyH.nil
        have D2 := Lib.hid (D1.out.set (a + r) (m.getD k 0) (E1.out.ok.at_ k))
        try simp only [Act.put]
        refine wpAnyH_done (by kernel_rfl) ?_ _
        refine NoPanic.normal ?_
        go_wp2_with (refine wpList_val rfl _ (exec_addn _ _ rfl (k : Int) 1 ((k + 1 : Nat) : Int) rfl rfl (by omega) (by omega)) ?_)
        go_roundw
        case rel => exact ⟨k + 1, swp m k (a + r), rfl, by omega, D2.out, .swap PM.out (by omega) (by omega) (by omega) (by omega) (by have := ML.out; omega), RB.out.onlyR ((only_drew g _).trans ((Only.set g k _ _).trans (Only.set g (a + r) _ _))) GS.out, ((OB.out.trans (only_drew g _)).trans (Only.set g k _ _)).trans (Only.set g (a + r) _ _)⟩
        case measure => simp [intOf]; omega
    · have hg1 : decide ((k : Int) ≤ ((a + 2 * q + 1 : Nat) : Int)) = false := decide_eq_false (by omega)
      go_wp2_with (first
        | (refine wpList_val rfl _ (exec_quo4 _ rfl L q rfl HQ.out (by omega)) ?_)
        | (refine wpList_val rfl _ (exec_muln _ _ rfl (q : Int) 2 ((2 * q : Nat) : Int) rfl rfl (by omega) (by omega)) ?_)
        | (refine wpList_val rfl _ (exec_addn _ _ rfl (a : Int) ((2 * q : Nat) : Int) ((a + 2 * q : Nat) : Int) rfl rfl (by omega) (by omega)) ?_)
        | (refine wpList_val rfl _ (exec_addn _ _ rfl ((a + 2 * q : Nat) : Int) 1 ((a + 2 * q + 1 : Nat) : Int) rfl rfl (by omega) (by omega)) ?_)
        | (refine wpList_val rfl _ (exec_le _ _ rfl (k : Int) ((a + 2 * q + 1 : Nat) : Int) false rfl rfl hg1) ?_))
      refine bodyPost_ret (results_none rfl _ _ _) rfl ?_
      exact ⟨rfl, OM.out, m, DM.out, PM.out, trivial⟩
end Go.Proofs.YtnpbmihbmilkbaaGreat
