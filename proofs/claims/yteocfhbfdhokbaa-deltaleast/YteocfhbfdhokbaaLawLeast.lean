/- The contract of the law DeltaLeast. -/
import Derived.Test.YteocfhbfdhokbaaNeedless
import Derived.Test.YteocfhbfdhokbaaLife
namespace Go.Proofs.Yteocfhbfdhokbaa
open Go.RowKit

theorem rows_three {w : World} {A B C : Option Addr} {n c m d k e : Nat} {a b x : List Am} (h : RowV w A n c a) (h2 : RowV w B m d b) (h3 : RowV w C k e x) : RowsV (w.alloc (.cells #[.slice A n c, .slice B m d, .slice C k e] 22)) (some ⟨w.heap.size, 0, none⟩) 3 3 [a, b, x] := by
  refine ⟨rfl, Nat.le_refl _, by decide, fun _ => ⟨w.heap.size, 0, rfl, by simp, fun i hi => ?_⟩⟩
  have hb := blk_alloc w 22 [.slice A n c, .slice B m d, .slice C k e]
  match i, hi with
  | 0, _ => exact ⟨A, n, c, hb.cell rfl, h.below (new_below w _)⟩
  | 1, _ => exact ⟨B, m, d, hb.cell rfl, h2.below (new_below w _)⟩
  | 2, _ => exact ⟨C, k, e, hb.cell rfl, h3.below (new_below w _)⟩
theorem IntsV.only {w w' : World} {A : Option Addr} {n cap g : Nat} {l : List Nat} (h : IntsV w A n cap l) (ho : Only g w w') (hg : ∀ a, A = some a → g < a.block) : IntsV w' A n cap l :=
  ⟨h.len, fun i hi => by
    obtain ⟨G, off, e, hG, hc⟩ := h.at_ i hi
    have hne := hg _ e
    simp only at hne
    refine ⟨G, off, e, Nat.lt_of_lt_of_le hG ho.size, ?_⟩
    unfold World.cell? at *
    rw [show w'.heap[(⟨G, off + i, none⟩ : Addr).block]? = w.heap[(⟨G, off + i, none⟩ : Addr).block]? from ho.block G hG (by omega)]
    exact hc⟩
/-- Where a number lies. -/
structure IElem (w : World) (A : Option Addr) (n G p i z : Nat) : Prop where
  ad : ∃ off, A = some ⟨G, off, none⟩ ∧ p = off + i
  lt : i < n
  cell : w.cell? ⟨G, p, none⟩ = some (.int .i64 z)
theorem IntsV.elem {w : World} {A : Option Addr} {n cap : Nat} {l : List Nat} (h : IntsV w A n cap l) (i : Nat) (hi : i < n) : ∃ G p, IElem w A n G p i (l.getD i 0) := by
  obtain ⟨G, off, e, hG, hc⟩ := h.at_ i hi
  exact ⟨G, off + i, ⟨off, e, rfl⟩, hi, hc⟩
theorem wpList_indexI {ops : Array Oper} {rest : List Oper} {op : Oper} {a : Act} {w : World} {Q : Exit → Act → World → Prop} (hgd : op.guard = none) (x y : Operand) (ho : op.op = .indexAddr 43 x y) (A : Option Addr) (n cap G p i v : Nat) (z : Int) (hx : a.eval x = .slice A n cap) (hy : a.eval y = .int .i64 z) (hz : z = (i : Int)) {W : World} (h : IElem W A n G p i v)
    (hk : wpList Try.prog ops Q rest (a.put op.dst (.pointer (some ⟨G, p, none⟩))) w) : wpList Try.prog ops Q (op :: rest) a w := by
  refine wpList_val hgd _ ?_ hk
  obtain ⟨off, hA, rfl⟩ := h.ad
  have hi := h.lt
  have hr : (Instr.indexAt 43 (.slice (some ⟨G, off, none⟩) n cap) (.int .i64 (i : Int))).run Try.prog w = .ok (.pointer (some ⟨G, off + i, none⟩)) w := by
    simp only [Instr.indexAt, asIntOf, Sem.run_bind, Sem.run_pure, Result.andThen_ok, run_underlying Try.underlying43]
    rw [if_pos ⟨by omega, by omega⟩]
    simp [Addr.add]
  unfold execOp
  simp only [ho, hx, hy, hz, hA, Sem.run_bind, hr, Result.andThen_ok, Sem.run_pure]
theorem wpList_store22i {ops : Array Oper} {rest : List Oper} {op : Oper} {a : Act} {w : World} {Q : Exit → Act → World → Prop} (hgd : op.guard = none) (x y : Operand) (ho : op.op = .store 22 x y) (g i : Nat) (cs : List Value) (D : Option Addr) (m c : Nat) (hx : a.eval x = .pointer (some ⟨g, i, none⟩)) (hy : a.eval y = .slice D m c) (hb : Blk w g 22 cs) (hi : i < cs.length)
    (h : ∀ w', Hid (Blk w' g 22 (cs.set i (.slice D m c))) → Hid (Only g w w') → wpList Try.prog ops Q rest (a.put op.dst undef) w') : wpList Try.prog ops Q (op :: rest) a w := by
  refine wpList_plain hgd fun K hK => ?_
  have hc := hb.cell (i := i) (List.getElem?_eq_getElem hi)
  have hf := hb.frozen i
  have hr : (execOp a.eval op).run Try.prog w = .ok .skip (w.setCell ⟨g, i, none⟩ (.slice D m c)) := by
    unfold execOp
    simp only [ho, hx, hy]
    simp [go_sem, hc, hf]
  unfold Oper.wp
  rw [hr]
  exact hK _ _ (h _ (Lib.hid (hb.set i (.slice D m c))) (Lib.hid (Only.set g i w (.slice D m c))))
/-- A row that is there, or is left out. -/
def PR (A : Option Addr) (n cap : Nat) (o : List Am) (x : List Am) (s : Value) : Prop := (x = o ∧ s = .slice A n cap) ∨ (x = [] ∧ s = .slice none 0 0)
theorem PR.row {A : Option Addr} {n cap : Nat} {o x : List Am} {s : Value} (h : PR A n cap o x s) {w : World} (hr : RowV w A n cap o) : ∃ D m c, s = .slice D m c ∧ RowV w D m c x := by
  rcases h with ⟨rfl, rfl⟩ | ⟨rfl, rfl⟩
  · exact ⟨_, _, _, rfl, hr⟩
  · exact ⟨_, _, _, rfl, rowV_nil _⟩
theorem PR.len {A : Option Addr} {n cap : Nat} {o x : List Am} {s : Value} (h : PR A n cap o x s) : x.length ≤ o.length := by
  rcases h with ⟨rfl, rfl⟩ | ⟨rfl, rfl⟩
  · exact Nat.le_refl _
  · exact Nat.zero_le _
theorem PR.none_ {A : Option Addr} {n cap : Nat} {o : List Am} : PR A n cap o [] (.slice none 0 0) := .inr ⟨rfl, rfl⟩
/-- The rows in the block g, some of them left out. -/
def Row3 (g : Nat) (A B C : Option Addr) (n m k cap cap2 cap3 : Nat) (a b c : List Am) (ms : List (List Am)) (V : World) : Prop :=
  ∃ x y z s t u, ms = [x, y, z] ∧ Blk V g 22 [s, t, u] ∧ PR A n cap a x s ∧ PR B m cap2 b y t ∧ PR C k cap3 c z u
theorem Row3.rows {g : Nat} {A B C : Option Addr} {n m k cap cap2 cap3 : Nat} {a b c : List Am} {ms : List (List Am)} {V : World} (h : Row3 g A B C n m k cap cap2 cap3 a b c ms V) (ha : RowV V A n cap a) (hb : RowV V B m cap2 b) (hc : RowV V C k cap3 c) :
    RowsV V (some ⟨g, 0, none⟩) 3 3 ms ∧ ms.flatten.length ≤ n + m + k := by
  obtain ⟨x, y, z, s, t, u, rfl, hk, p1, p2, p3⟩ := h
  refine ⟨⟨rfl, Nat.le_refl _, by decide, fun _ => ⟨g, 0, rfl, hk.lt, fun i hi => ?_⟩⟩, ?_⟩
  · match i, hi with
    | 0, _ => obtain ⟨D, j, q, rfl, r⟩ := p1.row ha; exact ⟨D, j, q, hk.cell rfl, r⟩
    | 1, _ => obtain ⟨D, j, q, rfl, r⟩ := p2.row hb; exact ⟨D, j, q, hk.cell rfl, r⟩
    | 2, _ => obtain ⟨D, j, q, rfl, r⟩ := p3.row hc; exact ⟨D, j, q, hk.cell rfl, r⟩
  · have h1 := p1.len; have h2 := p2.len; have h3 := p3.len
    have e1 := ha.len; have e2 := hb.len; have e3 := hc.len
    simp only [List.flatten_cons, List.flatten_nil, List.length_append, List.length_nil]
    omega
theorem needless_lt {ls : List (List Am)} (h : OkM ls) {i : Nat} (hi : i < (needless ls).length) : (needless ls).getD i 0 < ls.length := by
  rw [List.getD_eq_getElem?_getD, List.getElem?_eq_getElem hi, Option.getD_some]
  exact (nst_ni h ls.length (Nat.le_refl _)).lt _ (List.getElem_mem _)
theorem needless_all {ls : List (List Am)} (h : OkM ls) : norm ((needless ls).foldl (fun m i => m.set i []) ls).flatten = norm ls.flatten := by
  have hn := nst_ni h ls.length (Nat.le_refl _)
  have e : (needless ls).foldl (fun m i => m.set i []) ls = (nst ls ls.length).1 := hn.out.symm
  rw [e]
  exact norm_same hn.ok.flat (OkM.flat h) hn.all
theorem fold_take {l : List Nat} {ls : List (List Am)} {q : Nat} (h : q < l.length) : (l.take (q + 1)).foldl (fun m i => m.set i []) ls = ((l.take q).foldl (fun m i => m.set i []) ls).set (l.getD q 0) [] := by
  rw [List.take_add_one, List.getElem?_eq_getElem h, List.foldl_append, List.getD_eq_getElem?_getD, List.getElem?_eq_getElem h]; rfl
theorem join_len (a b : List Am) : (join a b).length ≤ a.length + b.length := Nat.le_trans (norm_len _) (by rw [List.length_append]; exact Nat.le_refl _)
theorem diff_len (a b : List Am) : (diff a b).length ≤ a.length := Nat.le_trans (List.length_filter_le ..) (norm_len a)
set_option maxRecDepth 100000 in
set_option maxHeartbeats 32000000 in
theorem deltaLeast_is (A B C : Option Addr) (n m k cap cap2 cap3 : Nat) (a b c : List Am) (w : World) (h : RowV w A n cap a) (h2 : RowV w B m cap2 b) (h3 : RowV w C k cap3 c) : Calls Try.prog 4 #[.slice A n cap, .slice B m cap2, .slice C k cap3] w fun e w' => e = .returned (.bool true) ∧ Below w.heap.size w w' := by
  have HA := Lib.hid h
  have HB := Lib.hid h2
  have HC := Lib.hid h3
  have OM := Lib.hid (show OkM [a, b, c] from fun x hx => by
    simp only [List.mem_cons, List.not_mem_nil, or_false] at hx
    rcases hx with rfl | rfl | rfl
    · exact h.ok
    · exact h2.ok
    · exact h3.ok)
  have B0 := Lib.hid (Below.refl w.heap.size w)
  clear h h2 h3
  have DD := Lib.hid (show ∀ W, Below w.heap.size w W → Calls Try.prog 5 #[] W fun e w' => e = .returned (.bool true) ∧ Below w.heap.size w w' from fun W hW => (life_is W).mono (fun e w' h => ⟨h.1, step_ hW h.2⟩))
  by_cases hn : n ≤ 40
  · have hd1 : decide ((40 : Int) < (n : Int)) = false := decide_eq_false (by omega)
    by_cases hm : m ≤ 40
    · have hd2 : decide ((40 : Int) < (m : Int)) = false := decide_eq_false (by omega)
      by_cases hk : k ≤ 40
      · have hd3 : decide ((40 : Int) < (k : Int)) = false := decide_eq_false (by omega)
        have NA := Lib.hid hn
        have NB := Lib.hid hm
        have NC := Lib.hid hk
        have FF := Lib.hid (show FewR [a, b, c] from ⟨by simp, by simp; have := HA.out.len; have := HB.out.len; have := HC.out.len; omega⟩)
        go_enter Try.func4, Try.ntmps4
        go_wp2_with fail
        refine (join_is _ _ _ _ _ _ a b _ HA.out HB.out (by omega) (by omega)).mono ?_
        rintro e w1 ⟨⟨A1, n1, c1, rfl, r1⟩, b1⟩
        have B1 := Lib.hid b1
        have J1 := Lib.hid r1
        have LJ := Lib.hid (show n1 ≤ 80 by have h9 := join_len a b; rw [r1.len, HA.out.len, HB.out.len] at h9; omega)
        clear r1 b1
        go_wp2_with fail
        refine (diff_is _ _ _ _ _ _ a b _ (HA.out.below B1.out) (HB.out.below B1.out) (by omega) (by omega)).mono ?_
        rintro e w2 ⟨⟨A2, n2, c2, rfl, r2⟩, b2⟩
        have B2 := Lib.hid (step_ B1.out b2)
        have D2 := Lib.hid r2
        have J2 := Lib.hid (J1.out.below b2)
        have LD := Lib.hid (show n2 ≤ 40 by have h9 := diff_len a b; rw [r2.len, HA.out.len] at h9; omega)
        clear r2 b2
        go_wp2_with fail
        refine (join_is _ _ _ _ _ _ (diff a b) b _ D2.out (HB.out.below B2.out) (by have := LD.out; omega) (by omega)).mono ?_
        rw [law_dj HA.out.ok HB.out.ok]
        rintro e w3 ⟨⟨A3, n3, c3, rfl, r3⟩, b3⟩
        have B3 := Lib.hid (step_ B2.out b3)
        have X3 := Lib.hid r3
        have J3 := Lib.hid (J2.out.below b3)
        have D3 := Lib.hid (D2.out.below b3)
        have L3 := Lib.hid (show n3 ≤ 5000 by have h9 := join_len a b; rw [r3.len, HA.out.len, HB.out.len] at h9; omega)
        clear r3 b3
        go_wp2_with fail
        refine (rows_is _ _ _ _ _ _ _ _ true _ X3.out J3.out L3.out (Lib.hid (decide_eq_true rfl))).mono ?_
        rintro e w4 ⟨rfl, b4⟩
        have B4 := Lib.hid (step_ B3.out b4)
        have J4 := Lib.hid (J3.out.below b4)
        have D4 := Lib.hid (D3.out.below b4)
        clear b4
        go_wp2_with fail
        refine (leq_is _ _ _ _ _ _ (diff a b) a true _ D4.out (HA.out.below B4.out) (by have := LD.out; omega) (by omega) (Lib.hid (law_da HA.out.ok HB.out.ok))).mono ?_
        rintro e w5 ⟨rfl, b5⟩
        have B5 := Lib.hid (step_ B4.out b5)
        have J5 := Lib.hid (J4.out.below b5)
        have D5 := Lib.hid (D4.out.below b5)
        clear b5
        go_wp2_with fail
        refine (diff_is _ _ _ _ _ _ (diff a b) (join a b) _ D5.out J5.out (by have := LD.out; omega) (by have := LJ.out; omega)).mono ?_
        rw [law_dd HA.out.ok HB.out.ok]
        rintro e w6 ⟨⟨A6, n6, c6, rfl, r6⟩, b6⟩
        obtain rfl : n6 = 0 := r6.len.symm
        have B6 := Lib.hid (step_ B5.out b6)
        have J6 := Lib.hid (J5.out.below b6)
        have D6 := Lib.hid (D5.out.below b6)
        clear r6 b6
        go_wp2_with fail
        refine (join_is _ _ _ _ _ _ c b _ (HC.out.below B6.out) (HB.out.below B6.out) (by omega) (by omega)).mono ?_
        rintro e w7 ⟨⟨A7, n7, c7, rfl, r7⟩, b7⟩
        have B7 := Lib.hid (step_ B6.out b7)
        have X7 := Lib.hid r7
        have J7 := Lib.hid (J6.out.below b7)
        have D7 := Lib.hid (D6.out.below b7)
        have L7 := Lib.hid (show n7 ≤ 5000 by have h9 := join_len c b; rw [r7.len, HC.out.len, HB.out.len] at h9; omega)
        clear r7 b7
        go_wp2_with fail
        by_cases hcb : join c b = join a b
        · have LL := Lib.hid (law_least HA.out.ok HB.out.ok HC.out.ok hcb)
          refine (rows_is _ _ _ _ _ _ _ _ true _ X7.out J7.out L7.out (Lib.hid (decide_eq_true hcb))).mono ?_
          rintro e w8 ⟨rfl, b8⟩
          have B8 := Lib.hid (step_ B7.out b8)
          have D8 := Lib.hid (D7.out.below b8)
          clear b8
          go_wp2_with fail
          refine (leq_is _ _ _ _ _ _ (diff a b) c true _ D8.out (HC.out.below B8.out) (by have := LD.out; omega) (by omega) LL).mono ?_
          rintro e WT ⟨rfl, b9⟩
          have BT := Lib.hid (step_ B8.out b9)
          clear b9
          go_wp2_with fail
          have RR := Lib.hid (rows_three (HA.out.below BT.out) (HB.out.below BT.out) (HC.out.below BT.out))
          have K9 := Lib.hid (blk_alloc WT 22 [.slice A n cap, .slice B m cap2, .slice C k cap3])
          have B9 := Lib.hid (step_ BT.out (new_below WT (.cells #[.slice A n cap, .slice B m cap2, .slice C k cap3] 22)))
          refine (needless_is _ _ _ [a, b, c] _ RR.out FF.out).mono ?_
          rintro e wn ⟨⟨An, nn, cn, rfl, rn, fn⟩, bn⟩
          obtain ⟨g9, hg9⟩ : ∃ g9, WT.heap.size = g9 := ⟨_, rfl⟩
          have IV := Lib.hid rn
          have FN := Lib.hid (show ∀ a, An = some a → g9 < a.block from fun a ha => by have := fn a ha; simp at this; omega)
          have KN := Lib.hid (K9.out.below bn)
          have BN := Lib.hid (step_ B9.out bn)
          have LN := Lib.hid rn.len
          have GW := Lib.hid (show w.heap.size ≤ g9 by have := BT.out.size; omega)
          have hnn : nn ≤ 3 := by have h9 := (nst_ni OM.out 3 (Nat.le_refl _)).few; have : (needless [a, b, c]).length ≤ 3 := h9; have := rn.len; omega
          have NL := Lib.hid (show ∀ i, i < nn → (needless [a, b, c]).getD i 0 < 3 from fun i hi => needless_lt OM.out (by rw [LN.out]; exact hi))
          have NA2 := Lib.hid (needless_all OM.out)
          rw [hg9] at KN ⊢
          clear rn fn bn hg9 RR K9 B9
          obtain ⟨out, ho⟩ : ∃ out, needless [a, b, c] = out := ⟨_, rfl⟩
          rw [ho] at IV LN NL NA2
          clear ho
          go_wp2_with fail
          go_loopw [11] (fun i wr => ∃ q : Nat, q ≤ nn ∧ i = .int .i64 q ∧ Row3 g9 A B C n m k cap cap2 cap3 a b c ((out.take q).foldl (fun m i => m.set i []) [a, b, c]) wr ∧ Below w.heap.size w wr ∧ IntsV wr An nn cn out) (fun i _ => nn - (intOf i).toNat)
          case atStart => exact ⟨0, Nat.zero_le _, rfl, ⟨_, _, _, _, _, _, rfl, KN.out, .inl ⟨rfl, rfl⟩, .inl ⟨rfl, rfl⟩, .inl ⟨rfl, rfl⟩⟩, BN.out, IV.out⟩
          case round =>
            obtain ⟨q, hq, rfl, h3, hb, hi⟩ := hrel
            have R3 := Lib.hid h3
            have BB := Lib.hid hb
            have I3 := Lib.hid hi
            clear h3 hb hi
            by_cases hlt : q < nn
            · obtain ⟨G, p, hE⟩ := I3.out.elem q hlt
              have E := Lib.hid hE
              have cell := hE.cell
              have LT := Lib.hid (NL.out q hlt)
              have FT := Lib.hid (fold_take (l := out) (ls := [a, b, c]) (q := q) (by rw [LN.out]; exact hlt))
              obtain ⟨z, hz⟩ : ∃ z, out.getD q 0 = z := ⟨_, rfl⟩
              rw [hz] at E LT FT cell
              clear hE hz
              obtain ⟨RV, _⟩ := R3.out.rows (HA.out.below BB.out) (HB.out.below BB.out) (HC.out.below BB.out)
              obtain ⟨G2, p2, D2, m2, c2, hF⟩ := RV.elem z LT.out
              have F := Lib.hid hF
              have PE := Lib.hid (show G2 = g9 ∧ p2 = z by obtain ⟨off, e1, e2⟩ := hF.ad; have := Option.some.inj e1; simp only [Addr.mk.injEq] at this; exact ⟨this.1.symm, by omega⟩)
              obtain ⟨x, y, z3, s, t, u, e3, k3, p31, p32, p33⟩ := R3.out
              have K3 := Lib.hid k3
              have hz0 : decide ((z : Int) < 0) = false := decide_eq_false (by omega)
              have hz2 : decide ((2 : Int) < (z : Int)) = false := decide_eq_false (by have := LT.out; omega)
              obtain ⟨rfl, rfl⟩ := PE.out
              clear hF RV k3
              go_wp2_with (first
                | go_skip
                | refine wpList_indexI rfl _ _ rfl An nn cn G p q p2 _ rfl rfl (by first | rfl | omega) E.out ?_
                | (refine wanted_on rfl ?_; refine wpList_indexI rfl _ _ rfl An nn cn G p q p2 _ rfl rfl (by first | rfl | omega) E.out ?_)
                | refine wpList_index40 rfl _ _ rfl _ 3 3 G2 p2 p2 D2 m2 c2 _ _ rfl rfl (by first | rfl | omega) F.out ?_
                | (refine wpList_store22i rfl _ _ rfl G2 p2 [s, t, u] none 0 0 rfl rfl K3.out LT.out ?_; intro w4 N4 O4))
              go_roundw
              case rel =>
                refine ⟨q + 1, by omega, by go_num, ?_, BB.out.trans (O4.out.below GW.out BB.out.size), I3.out.only O4.out FN.out⟩
                rw [FT.out, e3]
                have LT2 := LT.out
                have N4' := N4.out
                match p2, LT2 with
                | 0, _ => exact ⟨_, _, _, _, _, _, rfl, N4', PR.none_, p32, p33⟩
                | 1, _ => exact ⟨_, _, _, _, _, _, rfl, N4', p31, PR.none_, p33⟩
                | 2, _ => exact ⟨_, _, _, _, _, _, rfl, N4', p31, p32, PR.none_⟩
              case measure => simp [intOf]; omega
            · obtain rfl : q = nn := by omega
              have HT := Lib.hid (show out.take q = out from List.take_of_length_le (by have := LN.out; omega))
              rw [HT.out] at R3
              obtain ⟨RV, RL⟩ := R3.out.rows (HA.out.below BB.out) (HB.out.below BB.out) (HC.out.below BB.out)
              have VV := Lib.hid RV
              have LV := Lib.hid RL
              clear RV RL
              obtain ⟨ms, hms⟩ : ∃ ms, out.foldl (fun m i => m.set i []) [a, b, c] = ms := ⟨_, rfl⟩
              rw [hms] at VV LV NA2
              clear hms
              have FM := Lib.hid (show FewR ms from ⟨by have := VV.out.len; omega, by have := LV.out; have := NA.out; have := NB.out; have := NC.out; omega⟩)
              go_wp2_with fail
              refine (all_is _ _ _ ms _ VV.out FM.out).mono ?_
              rintro e w5 ⟨⟨A5, n5, c5, rfl, r5⟩, b5⟩
              have B5 := Lib.hid (step_ BB.out b5)
              have L5 := Lib.hid (show n5 ≤ 5000 by have := norm_len ms.flatten; rw [r5.len] at this; have := FM.out.2; omega)
              have R5 := Lib.hid (r5.below (new_below w5 (.cells #[.slice A n cap, .slice B m cap2, .slice C k cap3] 22)))
              have R6 := Lib.hid (rows_three (HA.out.below B5.out) (HB.out.below B5.out) (HC.out.below B5.out))
              have B6 := Lib.hid (step_ B5.out (new_below w5 (.cells #[.slice A n cap, .slice B m cap2, .slice C k cap3] 22)))
              clear r5 b5
              go_wp2_with fail
              refine (all_is _ _ _ [a, b, c] _ R6.out FF.out).mono ?_
              rintro e w7 ⟨⟨A7, n7, c7, rfl, r7⟩, b7⟩
              have B7 := Lib.hid (step_ B6.out b7)
              have R7 := Lib.hid r7
              have R8 := Lib.hid (R5.out.below b7)
              clear r7 b7
              go_wp2_with fail
              refine (rows_is _ _ _ _ _ _ _ _ true _ R8.out R7.out L5.out (Lib.hid (decide_eq_true NA2.out))).mono ?_
              rintro e w8 ⟨rfl, b8⟩
              have B8 := Lib.hid (step_ B7.out b8)
              clear b8
              go_wp2_with fail
              refine (life_is _).mono ?_
              rintro e w9 ⟨rfl, b9⟩
              have B9 := Lib.hid (step_ B8.out b9)
              clear b9
              go_wp2_with fail
              go_ret
              exact ⟨rfl, B9.out⟩
        · refine (rows_is _ _ _ _ _ _ _ _ false _ X7.out J7.out L7.out (Lib.hid (decide_eq_false hcb))).mono ?_
          rintro e WT ⟨rfl, b9⟩
          have BT := Lib.hid (step_ B7.out b9)
          clear b9
          go_wp2_with (first | go_skip | fail)
          have RR := Lib.hid (rows_three (HA.out.below BT.out) (HB.out.below BT.out) (HC.out.below BT.out))
          have K9 := Lib.hid (blk_alloc WT 22 [.slice A n cap, .slice B m cap2, .slice C k cap3])
          have B9 := Lib.hid (step_ BT.out (new_below WT (.cells #[.slice A n cap, .slice B m cap2, .slice C k cap3] 22)))
          refine (needless_is _ _ _ [a, b, c] _ RR.out FF.out).mono ?_
          rintro e wn ⟨⟨An, nn, cn, rfl, rn, fn⟩, bn⟩
          obtain ⟨g9, hg9⟩ : ∃ g9, WT.heap.size = g9 := ⟨_, rfl⟩
          have IV := Lib.hid rn
          have FN := Lib.hid (show ∀ a, An = some a → g9 < a.block from fun a ha => by have := fn a ha; simp at this; omega)
          have KN := Lib.hid (K9.out.below bn)
          have BN := Lib.hid (step_ B9.out bn)
          have LN := Lib.hid rn.len
          have GW := Lib.hid (show w.heap.size ≤ g9 by have := BT.out.size; omega)
          have hnn : nn ≤ 3 := by have h9 := (nst_ni OM.out 3 (Nat.le_refl _)).few; have : (needless [a, b, c]).length ≤ 3 := h9; have := rn.len; omega
          have NL := Lib.hid (show ∀ i, i < nn → (needless [a, b, c]).getD i 0 < 3 from fun i hi => needless_lt OM.out (by rw [LN.out]; exact hi))
          have NA2 := Lib.hid (needless_all OM.out)
          rw [hg9] at KN ⊢
          clear rn fn bn hg9 RR K9 B9
          obtain ⟨out, ho⟩ : ∃ out, needless [a, b, c] = out := ⟨_, rfl⟩
          rw [ho] at IV LN NL NA2
          clear ho
          go_wp2_with fail
          go_loopw [11] (fun i wr => ∃ q : Nat, q ≤ nn ∧ i = .int .i64 q ∧ Row3 g9 A B C n m k cap cap2 cap3 a b c ((out.take q).foldl (fun m i => m.set i []) [a, b, c]) wr ∧ Below w.heap.size w wr ∧ IntsV wr An nn cn out) (fun i _ => nn - (intOf i).toNat)
          case atStart => exact ⟨0, Nat.zero_le _, rfl, ⟨_, _, _, _, _, _, rfl, KN.out, .inl ⟨rfl, rfl⟩, .inl ⟨rfl, rfl⟩, .inl ⟨rfl, rfl⟩⟩, BN.out, IV.out⟩
          case round =>
            obtain ⟨q, hq, rfl, h3, hb, hi⟩ := hrel
            have R3 := Lib.hid h3
            have BB := Lib.hid hb
            have I3 := Lib.hid hi
            clear h3 hb hi
            by_cases hlt : q < nn
            · obtain ⟨G, p, hE⟩ := I3.out.elem q hlt
              have E := Lib.hid hE
              have cell := hE.cell
              have LT := Lib.hid (NL.out q hlt)
              have FT := Lib.hid (fold_take (l := out) (ls := [a, b, c]) (q := q) (by rw [LN.out]; exact hlt))
              obtain ⟨z, hz⟩ : ∃ z, out.getD q 0 = z := ⟨_, rfl⟩
              rw [hz] at E LT FT cell
              clear hE hz
              obtain ⟨RV, _⟩ := R3.out.rows (HA.out.below BB.out) (HB.out.below BB.out) (HC.out.below BB.out)
              obtain ⟨G2, p2, D2, m2, c2, hF⟩ := RV.elem z LT.out
              have F := Lib.hid hF
              have PE := Lib.hid (show G2 = g9 ∧ p2 = z by obtain ⟨off, e1, e2⟩ := hF.ad; have := Option.some.inj e1; simp only [Addr.mk.injEq] at this; exact ⟨this.1.symm, by omega⟩)
              obtain ⟨x, y, z3, s, t, u, e3, k3, p31, p32, p33⟩ := R3.out
              have K3 := Lib.hid k3
              have hz0 : decide ((z : Int) < 0) = false := decide_eq_false (by omega)
              have hz2 : decide ((2 : Int) < (z : Int)) = false := decide_eq_false (by have := LT.out; omega)
              obtain ⟨rfl, rfl⟩ := PE.out
              clear hF RV k3
              go_wp2_with (first
                | go_skip
                | refine wpList_indexI rfl _ _ rfl An nn cn G p q p2 _ rfl rfl (by first | rfl | omega) E.out ?_
                | (refine wanted_on rfl ?_; refine wpList_indexI rfl _ _ rfl An nn cn G p q p2 _ rfl rfl (by first | rfl | omega) E.out ?_)
                | refine wpList_index40 rfl _ _ rfl _ 3 3 G2 p2 p2 D2 m2 c2 _ _ rfl rfl (by first | rfl | omega) F.out ?_
                | (refine wpList_store22i rfl _ _ rfl G2 p2 [s, t, u] none 0 0 rfl rfl K3.out LT.out ?_; intro w4 N4 O4))
              go_roundw
              case rel =>
                refine ⟨q + 1, by omega, by go_num, ?_, BB.out.trans (O4.out.below GW.out BB.out.size), I3.out.only O4.out FN.out⟩
                rw [FT.out, e3]
                have LT2 := LT.out
                have N4' := N4.out
                match p2, LT2 with
                | 0, _ => exact ⟨_, _, _, _, _, _, rfl, N4', PR.none_, p32, p33⟩
                | 1, _ => exact ⟨_, _, _, _, _, _, rfl, N4', p31, PR.none_, p33⟩
                | 2, _ => exact ⟨_, _, _, _, _, _, rfl, N4', p31, p32, PR.none_⟩
              case measure => simp [intOf]; omega
            · obtain rfl : q = nn := by omega
              have HT := Lib.hid (show out.take q = out from List.take_of_length_le (by have := LN.out; omega))
              rw [HT.out] at R3
              obtain ⟨RV, RL⟩ := R3.out.rows (HA.out.below BB.out) (HB.out.below BB.out) (HC.out.below BB.out)
              have VV := Lib.hid RV
              have LV := Lib.hid RL
              clear RV RL
              obtain ⟨ms, hms⟩ : ∃ ms, out.foldl (fun m i => m.set i []) [a, b, c] = ms := ⟨_, rfl⟩
              rw [hms] at VV LV NA2
              clear hms
              have FM := Lib.hid (show FewR ms from ⟨by have := VV.out.len; omega, by have := LV.out; have := NA.out; have := NB.out; have := NC.out; omega⟩)
              go_wp2_with fail
              refine (all_is _ _ _ ms _ VV.out FM.out).mono ?_
              rintro e w5 ⟨⟨A5, n5, c5, rfl, r5⟩, b5⟩
              have B5 := Lib.hid (step_ BB.out b5)
              have L5 := Lib.hid (show n5 ≤ 5000 by have := norm_len ms.flatten; rw [r5.len] at this; have := FM.out.2; omega)
              have R5 := Lib.hid (r5.below (new_below w5 (.cells #[.slice A n cap, .slice B m cap2, .slice C k cap3] 22)))
              have R6 := Lib.hid (rows_three (HA.out.below B5.out) (HB.out.below B5.out) (HC.out.below B5.out))
              have B6 := Lib.hid (step_ B5.out (new_below w5 (.cells #[.slice A n cap, .slice B m cap2, .slice C k cap3] 22)))
              clear r5 b5
              go_wp2_with fail
              refine (all_is _ _ _ [a, b, c] _ R6.out FF.out).mono ?_
              rintro e w7 ⟨⟨A7, n7, c7, rfl, r7⟩, b7⟩
              have B7 := Lib.hid (step_ B6.out b7)
              have R7 := Lib.hid r7
              have R8 := Lib.hid (R5.out.below b7)
              clear r7 b7
              go_wp2_with fail
              refine (rows_is _ _ _ _ _ _ _ _ true _ R8.out R7.out L5.out (Lib.hid (decide_eq_true NA2.out))).mono ?_
              rintro e w8 ⟨rfl, b8⟩
              have B8 := Lib.hid (step_ B7.out b8)
              clear b8
              go_wp2_with fail
              refine (life_is _).mono ?_
              rintro e w9 ⟨rfl, b9⟩
              have B9 := Lib.hid (step_ B8.out b9)
              clear b9
              go_wp2_with fail
              go_ret
              exact ⟨rfl, B9.out⟩

      · have hd3 : decide ((40 : Int) < (k : Int)) = true := decide_eq_true (by omega)
        clear hn hm hk
        go_enter Try.func4, Try.ntmps4
        go_wp2_with (first | go_skip | fail)
        refine (DD.out _ B0.out).mono ?_
        rintro e w2 ⟨rfl, b2⟩
        have B2 := Lib.hid b2
        clear b2
        go_wp2_with fail
        go_ret
        exact ⟨rfl, B2.out⟩
    · have hd2 : decide ((40 : Int) < (m : Int)) = true := decide_eq_true (by omega)
      clear hn hm
      go_enter Try.func4, Try.ntmps4
      go_wp2_with (first | go_skip | fail)
      refine (DD.out _ B0.out).mono ?_
      rintro e w2 ⟨rfl, b2⟩
      have B2 := Lib.hid b2
      clear b2
      go_wp2_with fail
      go_ret
      exact ⟨rfl, B2.out⟩
  · have hd1 : decide ((40 : Int) < (n : Int)) = true := decide_eq_true (by omega)
    clear hn
    go_enter Try.func4, Try.ntmps4
    go_wp2_with (first | go_skip | fail)
    refine (DD.out _ B0.out).mono ?_
    rintro e w2 ⟨rfl, b2⟩
    have B2 := Lib.hid b2
    clear b2
    go_wp2_with fail
    go_ret
    exact ⟨rfl, B2.out⟩
end Go.Proofs.Yteocfhbfdhokbaa
