/- container/heap at the queue of dots: up, down, Push, Pop. -/
import Derived.Test.YtpgafijeecmgmaaQueue
namespace Go.Proofs.Ytpgafijeecmgmaa
open Go.RowKit

section
variable {o : Oper} {a : Act} {w : World}
theorem exec_half (x : Operand) (ho : o.op = .binOp .quo 3 x (.const (.int .i64 2)) 3) (z : Int) (k : Nat) (hx : a.eval x = .int .i64 z) (hz : z = (k : Int) - 1) (hk : k ≤ 100000) :
    (execOp a.eval o).run Try.prog w = .ok (.value (.int .i64 ((k - 1) / 2 : Nat))) w := by
  have hc : a.eval (.const (.int .i64 2)) = .int .i64 2 := rfl
  have e : IntKind.i64.wrap (Int.tdiv z 2) = (((k - 1) / 2 : Nat) : Int) := by
    rw [IntKind.wrap_i64]
    cases k with
    | zero => subst hz; decide
    | succ m =>
      have : z = (m : Int) := by omega
      subst this
      rw [Int.tdiv_eq_ediv_of_nonneg (by omega), Nat.add_sub_cancel]; omega
  unfold execOp
  simp only [ho]
  rw [hx, hc]
  simp [go_sem]
  exact e
theorem exec_subz (x : Operand) (ho : o.op = .binOp .sub 3 x (.const (.int .i64 1)) 3) (k : Nat) (hx : a.eval x = .int .i64 k) (hk : k ≤ 100000) :
    (execOp a.eval o).run Try.prog w = .ok (.value (.int .i64 ((k : Int) - 1))) w := by
  have hc : a.eval (.const (.int .i64 1)) = .int .i64 1 := rfl
  unfold execOp
  simp only [ho]
  rw [hx, hc]
  simp [go_sem]
  rw [IntKind.wrap_i64]; omega
end
theorem wpList_half {ops : Array Oper} {rest : List Oper} {op : Oper} {a : Act} {w : World} {Q : Exit → Act → World → Prop} (hgd : op.guard = none) (x : Operand) (ho : op.op = .binOp .quo 3 x (.const (.int .i64 2)) 3) (z : Int) (k : Nat) (hx : a.eval x = .int .i64 z) (hz : z = (k : Int) - 1) (hk : k ≤ 100000)
    (hq : wpList Try.prog ops Q rest (a.put op.dst (.int .i64 ((k - 1) / 2 : Nat))) w) : wpList Try.prog ops Q (op :: rest) a w := by
  refine wpList_plain hgd fun K hK => ?_
  unfold Oper.wp
  rw [exec_half x ho z k hx hz hk]
  exact hK _ _ hq
theorem wpList_subz {ops : Array Oper} {rest : List Oper} {op : Oper} {a : Act} {w : World} {Q : Exit → Act → World → Prop} (hgd : op.guard = none) (x : Operand) (ho : op.op = .binOp .sub 3 x (.const (.int .i64 1)) 3) (k : Nat) (hx : a.eval x = .int .i64 k) (hk : k ≤ 100000)
    (hq : wpList Try.prog ops Q rest (a.put op.dst (.int .i64 ((k : Int) - 1))) w) : wpList Try.prog ops Q (op :: rest) a w := by
  refine wpList_plain hgd fun K hK => ?_
  unfold Oper.wp
  rw [exec_subz x ho k hx hk]
  exact hK _ _ hq
set_option maxRecDepth 100000 in
theorem up_is (b B g cap : Nat) (l : List Int) (j : Nat) (w : World) (h : QV w b B (some ⟨g, 0, none⟩) cap l) (hu : Up l j) (hn : l.length ≤ 6000) :
    Calls Try.prog 50 #[.iface 64 (.pointer (some ⟨B, 0, none⟩)), .int .i64 j] w fun e w' => e = .returned (.tuple #[]) ∧ (∃ m, QV w' b B (some ⟨g, 0, none⟩) cap m ∧ Hp m ∧ m.Perm l) ∧ Only g w w' := by
  have HQ := Lib.hid h
  have HU := Lib.hid hu
  have hj := hu.lt
  clear h hu
  go_enter Try.func50, Try.ntmps50
  go_wp2_with fail
  go_loopw [1, 4] (fun jv _ wr => ∃ (k : Nat) (m : List Int), jv = .int .i64 k ∧ k ≤ j ∧ QV wr b B (some ⟨g, 0, none⟩) cap m ∧ Up m k ∧ m.Perm l ∧ Only g w wr) (fun jv _ _ => (intOf jv).toNat)
  case atStart => exact ⟨j, l, rfl, Nat.le_refl _, HQ.out, HU.out, List.Perm.refl _, Only.refl _ _⟩
  case round =>
    obtain ⟨k, m, rfl, hk, hq, hum, hp, ho⟩ := hrel
    have Q0 := Lib.hid hq
    have U0 := Lib.hid hum
    have P0 := Lib.hid hp
    have O0 := Lib.hid ho
    have hm6 : m.length ≤ 6000 := by rw [hp.length_eq]; exact hn
    have hkm := hum.lt
    have c0 := hq.blk.cell (i := 0) rfl
    have mL := meth_less wr B _ c0
    have nL := nil_less wr B
    clear hq hum hp ho
    by_cases hk0 : k = 0
    · subst hk0
      go_wp2_with (first
        | refine wpList_subz rfl _ rfl 0 rfl (by omega) ?_
        | refine wpList_half rfl _ rfl _ 0 rfl (by omega) (by omega) ?_)
      go_end0
      exact ⟨rfl, ⟨m, Q0.out, U0.out.done (.inl rfl), P0.out⟩, O0.out⟩
    · obtain ⟨q, hq⟩ : ∃ q, (k - 1) / 2 = q := ⟨_, rfl⟩
      have hqk : q < k := by omega
      have hne : ((q : Int) == (k : Int)) = false := by rw [beq_eq_false_iff_ne]; omega
      obtain ⟨r, hr⟩ : ∃ r, decide (m.getD k 0 < m.getD q 0) = r := ⟨_, rfl⟩
      have HR := Lib.hid hr
      go_wp2_with (first
        | refine wpList_subz rfl _ rfl k rfl (by omega) ?_
        | (refine wpList_half rfl _ rfl _ k rfl rfl (by omega) ?_; rw [hq]))
      refine (qless_is (some ⟨g, 0, none⟩) cap m k q r wr Q0.out.own.at_ (by omega) (by omega) HR).mono ?_
      rintro e w1 ⟨rfl, b1⟩
      have O1 := Lib.hid (O0.out.trans (Only.of_below b1))
      have hb1 := Lib.hid b1
      have c1 := (hb1.out.cell (p := ⟨B, 0, none⟩) Q0.out.blk.lt).trans c0
      have mS := meth_swap w1 B _ c1
      have nS := nil_swap w1 B
      clear mL nL c0 b1
      cases r with
      | false =>
        go_wp2_with fail
        go_end0
        have := hr
        rw [decide_eq_false_iff_not] at this
        refine ⟨rfl, ⟨m, ⟨Q0.out.blk.below hb1.out, Q0.out.own.below hb1.out, Q0.out.off⟩, U0.out.done (.inr ?_), P0.out⟩, O1.out⟩
        rw [hq]; omega
      | true =>
        rw [decide_eq_true_eq] at hr
        go_wp2_with fail
        refine (qswap_is g cap b m (swp m q k) q k w1 (Q0.out.own.below hb1.out) (by omega) (by omega) (Lib.hid rfl)).mono ?_
        rintro e w2 ⟨rfl, own2, o2⟩
        have Q1 := Lib.hid (show QV w1 b B (some ⟨g, 0, none⟩) cap m from ⟨Q0.out.blk.below hb1.out, Q0.out.own.below hb1.out, Q0.out.off⟩)
        have Q2 := Lib.hid (Q1.out.only o2 own2 (swp_len _ _ _))
        have O2 := Lib.hid (O1.out.trans o2)
        clear own2 o2 mS nS c1
        go_wp2_with fail
        go_roundw
        case rel =>
          refine ⟨q, swp m q k, rfl, by omega, Q2.out, ?_, (swp_perm m q k (by omega) (by omega)).trans P0.out, O2.out⟩
          rw [← hq]
          exact U0.out.step (by omega) (by rw [hq]; omega)
        case measure => simp [intOf]; omega
/-! Sinking. -/
section
variable {o : Oper} {a : Act} {w : World}
theorem exec_dbl (x : Operand) (ho : o.op = .binOp .mul 3 (.const (.int .i64 2)) x 3) (k : Nat) (hx : a.eval x = .int .i64 k) (hk : k ≤ 100000) :
    (execOp a.eval o).run Try.prog w = .ok (.value (.int .i64 (2 * k : Nat))) w := by
  have hc : a.eval (.const (.int .i64 2)) = .int .i64 2 := rfl
  unfold execOp
  simp only [ho]
  rw [hx, hc]
  simp [go_sem]
  rw [IntKind.wrap_i64]; omega
theorem exec_inc (x : Operand) (ho : o.op = .binOp .add 3 x (.const (.int .i64 1)) 3) (k : Nat) (hx : a.eval x = .int .i64 k) (hk : k ≤ 1000000) :
    (execOp a.eval o).run Try.prog w = .ok (.value (.int .i64 (k + 1 : Nat))) w := by
  have hc : a.eval (.const (.int .i64 1)) = .int .i64 1 := rfl
  unfold execOp
  simp only [ho]
  rw [hx, hc]
  simp [go_sem]
  rw [IntKind.wrap_i64]; omega
end
theorem wpList_dbl {ops : Array Oper} {rest : List Oper} {op : Oper} {a : Act} {w : World} {Q : Exit → Act → World → Prop} (hgd : op.guard = none) (x : Operand) (ho : op.op = .binOp .mul 3 (.const (.int .i64 2)) x 3) (k : Nat) (hx : a.eval x = .int .i64 k) (hk : k ≤ 100000)
    (hq : wpList Try.prog ops Q rest (a.put op.dst (.int .i64 (2 * k : Nat))) w) : wpList Try.prog ops Q (op :: rest) a w := by
  refine wpList_plain hgd fun K hK => ?_
  unfold Oper.wp
  rw [exec_dbl x ho k hx hk]
  exact hK _ _ hq
theorem wpList_inc {ops : Array Oper} {rest : List Oper} {op : Oper} {a : Act} {w : World} {Q : Exit → Act → World → Prop} (hgd : op.guard = none) (x : Operand) (ho : op.op = .binOp .add 3 x (.const (.int .i64 1)) 3) (k r : Nat) (hx : a.eval x = .int .i64 k) (hk : k ≤ 1000000) (hr : k + 1 = r)
    (hq : wpList Try.prog ops Q rest (a.put op.dst (.int .i64 r)) w) : wpList Try.prog ops Q (op :: rest) a w := by
  refine wpList_plain hgd fun K hK => ?_
  unfold Oper.wp
  rw [exec_inc x ho k hx hk, hr]
  exact hK _ _ hq
set_option maxRecDepth 100000 in
set_option maxHeartbeats 2000000 in
theorem down_is (b B g cap : Nat) (l : List Int) (n : Nat) (w : World) (h : QV w b B (some ⟨g, 0, none⟩) cap l) (hd : Down l 0 n) (hn : l.length ≤ 6000) :
    Calls Try.prog 46 #[.iface 64 (.pointer (some ⟨B, 0, none⟩)), .int .i64 0, .int .i64 n] w fun e w' => (∃ r, e = .returned r) ∧ (∃ m, QV w' b B (some ⟨g, 0, none⟩) cap m ∧ HpTo m n ∧ m.Perm l ∧ ∀ q, n ≤ q → m.getD q 0 = l.getD q 0) ∧ Only g w w' := by
  have HQ := Lib.hid h
  have HD := Lib.hid hd
  clear h hd
  go_enter Try.func46, Try.ntmps46
  go_wp2_with fail
  go_loopw [7, 8, 9, 10] (fun iv _ _ _ wr => ∃ (k : Nat) (m : List Int), iv = .int .i64 k ∧ QV wr b B (some ⟨g, 0, none⟩) cap m ∧ Down m k n ∧ m.Perm l ∧ (∀ q, n ≤ q → m.getD q 0 = l.getD q 0) ∧ k ≤ 100000 ∧ Only g w wr) (fun iv _ _ _ _ => n - (intOf iv).toNat)
  case atStart => exact ⟨0, l, rfl, HQ.out, HD.out, List.Perm.refl _, fun _ _ => rfl, by omega, Only.refl _ _⟩
  case round =>
    obtain ⟨k, m, rfl, hq, hdm, hp, hkeep, hk6, ho⟩ := hrel
    have Q0 := Lib.hid hq
    have D0 := Lib.hid hdm
    have P0 := Lib.hid hp
    have K0 := Lib.hid hkeep
    have O0 := Lib.hid ho
    have hm6 : m.length ≤ 6000 := by rw [hp.length_eq]; exact hn
    have hnm : n ≤ m.length := hdm.le
    have c0 := hq.blk.cell (i := 0) rfl
    have mL := meth_less wr B _ c0
    have nL := nil_less wr B
    clear hq hdm hp hkeep ho
    obtain ⟨a1, ha1⟩ : ∃ q, 2 * k + 1 = q := ⟨_, rfl⟩
    obtain ⟨a2, ha2⟩ : ∃ q, a1 + 1 = q := ⟨_, rfl⟩
    have hneg : ¬ (a1 : Int) < 0 := by omega
    by_cases hlt : a1 < n
    · have hge : ¬ (n : Int) ≤ (a1 : Int) := by omega
      by_cases hlt2 : a2 < n
      · obtain ⟨r1, hr1⟩ : ∃ r, decide (m.getD a2 0 < m.getD a1 0) = r := ⟨_, rfl⟩
        have HR1 := Lib.hid hr1
        go_wp2_with (first
          | refine wpList_dbl rfl _ rfl k rfl (by omega) ?_
          | refine wpList_inc rfl _ rfl (2 * k) a1 rfl (by omega) ha1 ?_
          | refine wpList_inc rfl _ rfl a1 a2 rfl (by omega) ha2 ?_)
        refine (qless_is (some ⟨g, 0, none⟩) cap m a2 a1 r1 wr Q0.out.own.at_ (by omega) (by omega) HR1).mono ?_
        rintro e w1 ⟨rfl, b1⟩
        have O1 := Lib.hid (O0.out.trans (Only.of_below b1))
        have c1 := (b1.cell (p := ⟨B, 0, none⟩) Q0.out.blk.lt).trans c0
        have Q1 := Lib.hid (show QV w1 b B (some ⟨g, 0, none⟩) cap m from ⟨Q0.out.blk.below b1, Q0.out.own.below b1, Q0.out.off⟩)
        clear mL nL b1 c0
        have mL := meth_less w1 B _ c1
        have nL := nil_less w1 B
        cases r1 with
        | true =>
          rw [decide_eq_true_eq] at hr1
          have H1 : 2 * k + 1 < n → m.getD a2 0 ≤ m.getD (2 * k + 1) 0 := fun _ => by rw [ha1]; omega
          have H2 : 2 * k + 2 < n → m.getD a2 0 ≤ m.getD (2 * k + 2) 0 := fun _ => by rw [show 2 * k + 2 = a2 by omega]; omega
          obtain ⟨r2, hr2⟩ : ∃ r, decide (m.getD a2 0 < m.getD k 0) = r := ⟨_, rfl⟩
          have HR2 := Lib.hid hr2
          go_wp2_with fail
          refine (qless_is (some ⟨g, 0, none⟩) cap m a2 k r2 w1 Q1.out.own.at_ (by omega) (by omega) HR2).mono ?_
          rintro e w2 ⟨rfl, b2⟩
          have O2 := Lib.hid (O1.out.trans (Only.of_below b2))
          have HB2 := Lib.hid b2
          have c2 := (b2.cell (p := ⟨B, 0, none⟩) Q1.out.blk.lt).trans (Q1.out.blk.cell (i := 0) rfl)
          have mS := meth_swap w2 B _ c2
          have nS := nil_swap w2 B
          have Q2 := Lib.hid (show QV w2 b B (some ⟨g, 0, none⟩) cap m from ⟨Q1.out.blk.below b2, Q1.out.own.below b2, Q1.out.off⟩)
          clear b2
          cases r2 with
          | false =>
            go_wp2_with fail
            go_ret
            rw [decide_eq_false_iff_not] at hr2
            exact ⟨⟨_, rfl⟩, ⟨m, Q2.out, D0.out.done (fun x => Int.le_trans (Int.not_lt.1 hr2) (H1 x)) (fun x => Int.le_trans (Int.not_lt.1 hr2) (H2 x)), P0.out, K0.out⟩, O2.out⟩
          | true =>
            rw [decide_eq_true_eq] at hr2
            go_wp2_with fail
            refine (qswap_is g cap b m (swp m k a2) k a2 w2 Q2.out.own (by omega) (by omega) (Lib.hid rfl)).mono ?_
            rintro e w3 ⟨rfl, own3, o3⟩
            have Q3 := Lib.hid (Q2.out.only o3 own3 (swp_len _ _ _))
            have O3 := Lib.hid (O2.out.trans o3)
            clear own3 o3 mS nS c2
            go_wp2_with fail
            go_roundw
            case rel =>
              refine ⟨a2, swp m k a2, rfl, Q3.out, D0.out.step (by omega) (by omega) (by omega) H1 H2, (swp_perm m k a2 (by omega) (by omega)).trans P0.out, fun q hq => ?_, by omega, O3.out⟩
              rw [swp_at m k a2 q (by omega) (by omega), if_neg (by omega), if_neg (by omega)]
              exact K0.out q hq
            case measure => simp [intOf]; omega
        | false =>
          rw [decide_eq_false_iff_not] at hr1
          have H1 : 2 * k + 1 < n → m.getD a1 0 ≤ m.getD (2 * k + 1) 0 := fun _ => by rw [ha1]; omega
          have H2 : 2 * k + 2 < n → m.getD a1 0 ≤ m.getD (2 * k + 2) 0 := fun _ => by rw [show 2 * k + 2 = a2 by omega]; omega
          obtain ⟨r2, hr2⟩ : ∃ r, decide (m.getD a1 0 < m.getD k 0) = r := ⟨_, rfl⟩
          have HR2 := Lib.hid hr2
          go_wp2_with fail
          refine (qless_is (some ⟨g, 0, none⟩) cap m a1 k r2 w1 Q1.out.own.at_ (by omega) (by omega) HR2).mono ?_
          rintro e w2 ⟨rfl, b2⟩
          have O2 := Lib.hid (O1.out.trans (Only.of_below b2))
          have HB2 := Lib.hid b2
          have c2 := (b2.cell (p := ⟨B, 0, none⟩) Q1.out.blk.lt).trans (Q1.out.blk.cell (i := 0) rfl)
          have mS := meth_swap w2 B _ c2
          have nS := nil_swap w2 B
          have Q2 := Lib.hid (show QV w2 b B (some ⟨g, 0, none⟩) cap m from ⟨Q1.out.blk.below b2, Q1.out.own.below b2, Q1.out.off⟩)
          clear b2
          cases r2 with
          | false =>
            go_wp2_with fail
            go_ret
            rw [decide_eq_false_iff_not] at hr2
            exact ⟨⟨_, rfl⟩, ⟨m, Q2.out, D0.out.done (fun x => Int.le_trans (Int.not_lt.1 hr2) (H1 x)) (fun x => Int.le_trans (Int.not_lt.1 hr2) (H2 x)), P0.out, K0.out⟩, O2.out⟩
          | true =>
            rw [decide_eq_true_eq] at hr2
            go_wp2_with fail
            refine (qswap_is g cap b m (swp m k a1) k a1 w2 Q2.out.own (by omega) (by omega) (Lib.hid rfl)).mono ?_
            rintro e w3 ⟨rfl, own3, o3⟩
            have Q3 := Lib.hid (Q2.out.only o3 own3 (swp_len _ _ _))
            have O3 := Lib.hid (O2.out.trans o3)
            clear own3 o3 mS nS c2
            go_wp2_with fail
            go_roundw
            case rel =>
              refine ⟨a1, swp m k a1, rfl, Q3.out, D0.out.step (by omega) (by omega) (by omega) H1 H2, (swp_perm m k a1 (by omega) (by omega)).trans P0.out, fun q hq => ?_, by omega, O3.out⟩
              rw [swp_at m k a1 q (by omega) (by omega), if_neg (by omega), if_neg (by omega)]
              exact K0.out q hq
            case measure => simp [intOf]; omega
      · have hge2 : ¬ (a2 : Int) < (n : Int) := by omega
        go_wp2_with (first
          | refine wpList_dbl rfl _ rfl k rfl (by omega) ?_
          | refine wpList_inc rfl _ rfl (2 * k) a1 rfl (by omega) ha1 ?_
          | refine wpList_inc rfl _ rfl a1 a2 rfl (by omega) ha2 ?_)
        have H1 : 2 * k + 1 < n → m.getD a1 0 ≤ m.getD (2 * k + 1) 0 := fun _ => by rw [ha1]; omega
        have H2 : 2 * k + 2 < n → m.getD a1 0 ≤ m.getD (2 * k + 2) 0 := fun h => absurd h (by omega)
        obtain ⟨r2, hr2⟩ : ∃ r, decide (m.getD a1 0 < m.getD k 0) = r := ⟨_, rfl⟩
        have HR2 := Lib.hid hr2
        refine (qless_is (some ⟨g, 0, none⟩) cap m a1 k r2 wr Q0.out.own.at_ (by omega) (by omega) HR2).mono ?_
        rintro e w2 ⟨rfl, b2⟩
        have O2 := Lib.hid (O0.out.trans (Only.of_below b2))
        have HB2 := Lib.hid b2
        have c2 := (b2.cell (p := ⟨B, 0, none⟩) Q0.out.blk.lt).trans (Q0.out.blk.cell (i := 0) rfl)
        have mS := meth_swap w2 B _ c2
        have nS := nil_swap w2 B
        have Q2 := Lib.hid (show QV w2 b B (some ⟨g, 0, none⟩) cap m from ⟨Q0.out.blk.below b2, Q0.out.own.below b2, Q0.out.off⟩)
        clear b2
        cases r2 with
        | false =>
          go_wp2_with fail
          go_ret
          rw [decide_eq_false_iff_not] at hr2
          exact ⟨⟨_, rfl⟩, ⟨m, Q2.out, D0.out.done (fun x => Int.le_trans (Int.not_lt.1 hr2) (H1 x)) (fun x => Int.le_trans (Int.not_lt.1 hr2) (H2 x)), P0.out, K0.out⟩, O2.out⟩
        | true =>
          rw [decide_eq_true_eq] at hr2
          go_wp2_with fail
          refine (qswap_is g cap b m (swp m k a1) k a1 w2 Q2.out.own (by omega) (by omega) (Lib.hid rfl)).mono ?_
          rintro e w3 ⟨rfl, own3, o3⟩
          have Q3 := Lib.hid (Q2.out.only o3 own3 (swp_len _ _ _))
          have O3 := Lib.hid (O2.out.trans o3)
          clear own3 o3 mS nS c2
          go_wp2_with fail
          go_roundw
          case rel =>
            refine ⟨a1, swp m k a1, rfl, Q3.out, D0.out.step (by omega) (by omega) (by omega) H1 H2, (swp_perm m k a1 (by omega) (by omega)).trans P0.out, fun q hq => ?_, by omega, O3.out⟩
            rw [swp_at m k a1 q (by omega) (by omega), if_neg (by omega), if_neg (by omega)]
            exact K0.out q hq
          case measure => simp [intOf]; omega
    · have hge : (n : Int) ≤ (a1 : Int) := by omega
      go_wp2_with (first
        | refine wpList_dbl rfl _ rfl k rfl (by omega) ?_
        | refine wpList_inc rfl _ rfl (2 * k) a1 rfl (by omega) ha1 ?_)
      go_ret
      exact ⟨⟨_, rfl⟩, ⟨m, Q0.out, D0.out.done (fun h => absurd h (by omega)) (fun h => absurd h (by omega)), P0.out, K0.out⟩, O0.out⟩
theorem QV.own0 {w : World} {b B : Nat} {A : Option Addr} {cap : Nat} {l : List Int} (h : QV w b B A cap l) (h0 : 0 < l.length) : ∃ g, A = some ⟨g, 0, none⟩ := by
  rcases h.own.row.2 with ⟨_, e⟩ | ⟨g, _, _, e, _⟩
  · omega
  · simp only [Value.slice.injEq] at e; exact ⟨g, e.1⟩
set_option maxRecDepth 100000 in
theorem hpush_is (b B : Nat) (A : Option Addr) (cap : Nat) (l : List Int) (x : Int) (w : World) (h : QV w b B A cap l) (hh : Hp l) (hx : 0 ≤ x ∧ x < 18446744073709551616) (hn : l.length ≤ 5000) (hb : b ≤ w.heap.size) :
    Calls Try.prog 45 #[.iface 64 (.pointer (some ⟨B, 0, none⟩)), .iface 27 (.int .u64 x)] w fun e w' => e = .returned (.tuple #[]) ∧ (∃ A' c m, QV w' b B A' c m ∧ Hp m ∧ m.Perm (x :: l) ∧ ∀ k, (Value.slice A' m.length c).ownBlock = some k → (Value.slice A l.length cap).ownBlock = some k ∨ w.heap.size ≤ k) ∧ Fr B (.slice A l.length cap) w w' := by
  have mP := meth_push w B
  have nP := nil_push w B
  have HQ := Lib.hid h
  have HH := Lib.hid hh
  clear h hh
  go_enter Try.func45, Try.ntmps45
  go_wp2_with fail
  refine (qpush_is b B A cap l x w HQ.out hx hn hb).mono ?_
  rintro e w1 ⟨rfl, ⟨g, c, q1, hg⟩, f1⟩
  have Q1 := Lib.hid q1
  have F1 := Lib.hid f1
  have HG := Lib.hid hg
  have c1 := q1.blk.cell (i := 0) rfl
  have mN := meth_len w1 B _ c1
  have nN := nil_len w1 B
  clear q1 f1 hg mP nP
  go_wp2_with fail
  refine (qlen_is (some ⟨g, 0, none⟩) _ c w1).mono ?_
  rintro e w2 ⟨rfl, rfl⟩
  go_wp2_with (first
    | refine wpList_sub1 rfl _ rfl _ l.length rfl (by rw [List.length_append, List.length_singleton]; push_cast; rfl) (by omega) ?_)
  refine (up_is b B g c (l ++ [x]) l.length w1 Q1.out (Up.start HH.out x) (by simp; omega)).mono ?_
  rintro e w3 ⟨rfl, ⟨m, q3, hm, hp⟩, o3⟩
  have Q3 := Lib.hid q3
  have HM := Lib.hid hm
  have HP := Lib.hid hp
  have O3 := Lib.hid o3
  clear q3 hm hp o3 mN nN c1
  go_wp2_with fail
  go_end0
  exact ⟨rfl, ⟨_, _, m, Q3.out, HM.out, HP.out.trans (List.perm_append_singleton _ _), fun k hk => by
    have e : g = k := by simpa [Value.ownBlock] using hk
    rw [← e]; exact HG.out⟩, F1.out.trans (Fr.of_only (v := .slice (some ⟨g, 0, none⟩) 0 0) O3.out rfl) (fun k hk => by
    have e : g = k := by simpa [Value.ownBlock] using hk
    rw [← e]; exact HG.out)⟩
set_option maxRecDepth 100000 in
theorem hpop_is (b B g cap : Nat) (l : List Int) (w : World) (h : QV w b B (some ⟨g, 0, none⟩) cap l) (hh : Hp l) (h0 : 0 < l.length) (hn : l.length ≤ 5000) :
    Calls Try.prog 38 #[.iface 64 (.pointer (some ⟨B, 0, none⟩))] w fun e w' => ∃ x m, e = .returned (.iface 27 (.int .u64 x)) ∧ l.Perm (x :: m) ∧ (∀ d ∈ l, x ≤ d) ∧ Hp m ∧ QV w' b B (some ⟨g, 0, none⟩) cap m ∧ Fr B (.slice (some ⟨g, 0, none⟩) l.length cap) w w' := by
  obtain ⟨n, hln⟩ : ∃ n, l.length = n + 1 := ⟨l.length - 1, by omega⟩
  have HQ := Lib.hid h
  have HH := Lib.hid hh
  have HL := Lib.hid hln
  have c0 := h.blk.cell (i := 0) rfl
  have mN := meth_len w B _ c0
  have nN := nil_len w B
  have mS := meth_swap w B _ c0
  have nS := nil_swap w B
  have hnl : n < l.length := by omega
  clear h hh hln
  go_enter Try.func38, Try.ntmps38
  go_wp2_with fail
  refine (qlen_is (some ⟨g, 0, none⟩) _ cap w).mono ?_
  rintro e w2 ⟨rfl, rfl⟩
  go_wp2_with (first
    | refine wpList_sub1 rfl _ rfl _ n rfl (by rw [HL.out]; push_cast; rfl) (by omega) ?_)
  refine (qswap_is g cap b l (swp l 0 n) 0 n w HQ.out.own h0 hnl (Lib.hid rfl)).mono ?_
  rintro e w1 ⟨rfl, own1, o1⟩
  have Q1 := Lib.hid (HQ.out.only o1 own1 (swp_len _ _ _))
  have O1 := Lib.hid o1
  clear own1 o1 mS nS mN nN c0
  go_wp2_with fail
  refine (down_is b B g cap (swp l 0 n) n w1 Q1.out (Down.start HH.out HL.out) (by rw [swp_len]; omega)).mono ?_
  rintro e w3 ⟨⟨rb, rfl⟩, ⟨m, q3, hm, hp, hk⟩, o3⟩
  have Q3 := Lib.hid q3
  have HM := Lib.hid hm
  have HP := Lib.hid (hp.trans (swp_perm l 0 n (by omega) hnl))
  have HK := Lib.hid (show m.getD n 0 = l.getD 0 0 from by rw [hk n (Nat.le_refl _), swp_last HL.out])
  have O3 := Lib.hid (O1.out.trans o3)
  have c3 := q3.blk.cell (i := 0) rfl
  have mP := meth_pop w3 B
  have nP := nil_pop w3 B
  clear q3 hm hp hk o3
  obtain ⟨x0, hx0⟩ : ∃ x, l.getD 0 0 = x := ⟨_, rfl⟩
  rw [hx0] at HK
  go_wp2_with fail
  refine (qpop_is b B g cap m n x0 w3 Q3.out (by rw [HP.out.length_eq]; exact HL.out) (by omega) HK).mono ?_
  rintro e w4 ⟨rfl, q4, o4⟩
  have Q4 := Lib.hid q4
  have O4 := Lib.hid o4
  clear q4 o4 mP nP c3
  go_wp2_with fail
  go_ret
  obtain ⟨t1, t2⟩ := take_out HL.out HP.out HM.out HK.out
  refine ⟨x0, m.take n, rfl, t1, fun d hd => hx0 ▸ HH.out.top d hd, t2, Q4.out, ?_⟩
  refine (Fr.of_only (B := B) (v := .slice (some ⟨g, 0, none⟩) l.length cap) O3.out rfl).trans (v' := .slice (some ⟨g, 0, none⟩) 0 0) ⟨O4.out.os, O4.out.tape, O4.out.output, O4.out.size, fun k hk hn _ => O4.out.block k hk hn⟩ (fun k hk => .inl ?_)
  simpa [Value.ownBlock] using hk
end Go.Proofs.Ytpgafijeecmgmaa
