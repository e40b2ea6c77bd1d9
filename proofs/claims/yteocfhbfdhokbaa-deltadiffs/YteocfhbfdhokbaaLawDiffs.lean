/- The contract of the law DeltaDiffs. -/
import Derived.Test.YteocfhbfdhokbaaRefDiff
import Derived.Laws.AppendOwnNone
namespace Go.Proofs.Yteocfhbfdhokbaa
open Go.RowKit

theorem wpList_app_row {ops : Array Oper} {rest : List Oper} {op : Oper} {a : Act} {w : World} {Q : Exit → Act → World → Prop} (hgd : op.guard = none) (s x : Operand) (ho : op.op = .call { callee := .builtin .append, args := #[s, x], argTypes := #[22, 22] })
    (B : Nat) (v : Value) (l : List Am) (A : Option Addr) (n cap : Nat) (r : List Am) (hs : a.eval s = v) (hx : a.eval x = .slice A n cap) (hown : OwnR w B v l) (hr : RowV w A n cap r) (h0 : A = none → cap = 0) (hn : l.length + n ≤ 5000) (hB : B ≤ w.heap.size)
    (h : ∀ D m c w', Hid (OwnR w' B (.slice D m c) (l ++ r)) → Hid (Below B w w') → wpList Try.prog ops Q rest (a.put op.dst (.slice D m c)) w') : wpList Try.prog ops Q (op :: rest) a w := by
  obtain ⟨i0, hi, hz0, hz1, hz2⟩ := info_parts info46z
  cases A with
  | none =>
    have hn0 : n = 0 := by
      by_cases e : n = 0
      · exact e
      · obtain ⟨G, off, e2, _⟩ := hr.at_ (by omega)
        cases e2
    subst hn0
    obtain rfl : r = [] := List.eq_nil_of_length_eq_zero hr.len
    obtain rfl := h0 rfl
    refine wpList_append_own_none hgd s x 22 ho B 38 i0 21 Try.underlying22 hi v _ _ hs hown.row hx ?_
    obtain ⟨D, c, e⟩ := hown.shape
    rw [e]
    refine h D _ c w (Lib.hid ?_) (Lib.hid (Below.refl _ _))
    rw [List.append_nil, ← e]
    exact hown
  | some ad =>
    refine wpList_append_own _ hgd s x 22 ho B 38 i0 (.agg azero.cells.toArray) 21 40 Try.underlying22 hi hz0 hz1 hz2 (by rfl) (by decide) v _ _ hs hown.row ad n cap (acs r) hx (by rw [acs_len hr.ok, hr.len]) (fun j u hj => ?_) (acs_ones r) (by unfold maxLen; omega) (by omega) hB (fun v' w' o1 g1 _ => ?_)
    · have hlt : j < r.length * 21 := by rw [← acs_len hr.ok]; exact (List.getElem?_eq_some_iff.1 hj).1
      obtain ⟨G, off, e, hG, hq⟩ := hr.at_ (by have := hr.len; omega)
      cases e
      have h1 := acs_cells hr.ok hq j u hj
      unfold Addr.add
      split
      · rename_i h0; rw [h0] at h1; exact h1
      · exact h1
    · have own : OwnR w' B v' (l ++ r) := ⟨hown.ok.app hr.ok, by rw [acs_app, List.length_append, hr.len]; exact o1⟩
      obtain ⟨D, c, e⟩ := own.shape
      subst e
      exact h D _ c w' (Lib.hid own) (Lib.hid ⟨g1.os, g1.tape, g1.output, g1.size, fun k hk => g1.block k (by omega) (fun e => by have := (hown.lt e.symm).1; omega)⟩)
def even (x : Am) : Bool := decide (x.k.r % 2 = 0)
theorem rep_at {x : Am} (hx : x.Ok) : x.cells[10]? = some (.int .u8 x.k.r) := by
  rw [Am.cells, List.getElem?_append_left (by rw [kcells_len hx.k.ml]; omega)]
  exact kc10 hx.k.ml
set_option maxRecDepth 100000 in
set_option maxHeartbeats 4000000 in
theorem even_is (x : Am) (w : World) (hx : x.Ok) : Calls Try.prog 10 #[.agg x.cells.toArray] w fun e w' => e = .returned (.bool (even x)) ∧ Below w.heap.size w w' := by
  have c0 := (blk_alloc w 38 x.cells).cell (i := 10) (rep_at hx)
  have QB := Lib.hid (new_below w (.cells x.cells.toArray 38))
  have h0 := hx.k.r0
  have h1 := hx.k.r1
  clear hx
  go_enter Try.func10, Try.ntmps10
  go_wp2_with fail
  go_ret
  exact ⟨ret_bool rfl, QB.out⟩
theorem OwnR.rowV {w : World} {B : Nat} {D : Option Addr} {m c : Nat} {l : List Am} (h : OwnR w B (.slice D m c) l) : RowV w D m c l := by
  obtain ⟨A, n, cap, e, hr⟩ := h.rowAt
  simp only [Value.slice.injEq] at e
  obtain ⟨rfl, rfl, rfl⟩ := e
  exact hr
theorem part_short (l : List Am) (j : Nat) : ((parts l).getD j []).length ≤ 1 := by
  unfold parts
  rw [List.getD_eq_getElem?_getD, List.getElem?_map]
  cases (norm l)[j]? <;> simp
theorem diff_len' (a b : List Am) : (diff a b).length ≤ a.length := Nat.le_trans (List.length_filter_le ..) (norm_len a)
theorem ownR_made (w : World) : OwnR (w.alloc (.cells #[] 38)) w.heap.size (.slice (some ⟨w.heap.size, 0, none⟩) 0 0) [] :=
  ⟨okR_nil, World.ownsRow_made (base := w.heap.size) (e := 38) (size := 21) w #[] 0 (Nat.le_refl _) (Nat.zero_le _) (by rfl)⟩
set_option maxRecDepth 100000 in
set_option maxHeartbeats 32000000 in
theorem deltaDiffs_is (A B : Option Addr) (n m cap cap2 : Nat) (a b : List Am) (w : World) (h : RowV w A n cap a) (h2 : RowV w B m cap2 b) : Calls Try.prog 3 #[.slice A n cap, .slice B m cap2] w fun e w' => e = .returned (.bool true) ∧ Below w.heap.size w w' := by
  have HA := Lib.hid h
  have HB := Lib.hid h2
  have B0 := Lib.hid (Below.refl w.heap.size w)
  clear h h2
  have DD := Lib.hid (show ∀ W, Below w.heap.size w W → Calls Try.prog 5 #[] W fun e w' => e = .returned (.bool true) ∧ Below w.heap.size w w' from fun W hW => (life_is W).mono (fun e w' h => ⟨h.1, step_ hW h.2⟩))
  by_cases hn : n ≤ 60
  · have hd1 : decide ((60 : Int) < (n : Int)) = false := decide_eq_false (by omega)
    by_cases hm : m ≤ 60
    · have hd2 : decide ((60 : Int) < (m : Int)) = false := decide_eq_false (by omega)
      go_enter Try.func3, Try.ntmps3
      go_wp2_with fail
      refine (parts_is _ _ _ a _ HA.out (by omega)).mono ?_
      rintro e w1 ⟨⟨Ap, np, cp, rfl, rp⟩, b1⟩
      have B1 := Lib.hid b1
      have P1 := Lib.hid rp
      have LP := Lib.hid (show np = (norm a).length by have := rp.len; unfold parts at this; rw [List.length_map] at this; omega)
      have hnp : np ≤ 60 := by have := norm_len a; rw [HA.out.len] at this; have := LP.out; omega
      clear rp b1
      go_wp2_with fail
      refine (refParts_is _ _ _ a _ (HA.out.below B1.out) (by omega)).mono ?_
      rintro e w2 ⟨⟨Aq, nq, cq, rfl, rq⟩, b2⟩
      obtain rfl : nq = np := by have := rq.len; have := P1.out.len; omega
      have B2 := Lib.hid (step_ B1.out b2)
      have P2 := Lib.hid (P1.out.below b2)
      have Q2 := Lib.hid rq
      have hbn : ((nq : Int) == (nq : Int)) = true := by simp
      clear rq b2
      go_wp2_with fail
      obtain ⟨r, hr⟩ : ∃ r, decide ((norm a).length = 1) = r := ⟨_, rfl⟩
      have hq1 : ((nq : Int) == 1) = r := by rw [← hr, LP.out, Bool.eq_iff_iff]; simp; omega
      have hbr : (r == r) = true := by simp
      refine (irreducible_is _ _ _ a r _ (HA.out.below B2.out) (by omega) (Lib.hid hr)).mono ?_
      rintro e w3 ⟨rfl, b3⟩
      have B3 := Lib.hid (step_ B2.out b3)
      have C3 := Lib.hid b3
      clear b3 hr
      go_wp2_with fail
      go_loopw [7] (fun i wr => ∃ j : Nat, j ≤ nq ∧ i = .int .i64 j ∧ Below w.heap.size w wr ∧ Below w2.heap.size w2 wr) (fun i _ => nq - (intOf i).toNat)
      case atStart => exact ⟨0, Nat.zero_le _, rfl, B3.out, C3.out⟩
      case round =>
        obtain ⟨j, hj, rfl, hb, hb2⟩ := hrel
        have BB := Lib.hid hb
        have BC := Lib.hid hb2
        clear hb hb2
        by_cases hlt : j < nq
        · obtain ⟨G, p, D1, m1, k1, hE⟩ := (P2.out.below BC.out).elem j hlt
          obtain ⟨G2, p2, D2, m2, k2, hF⟩ := (Q2.out.below BC.out).elem j hlt
          have E := Lib.hid hE
          have F := Lib.hid hF
          have LM := Lib.hid (show m1 ≤ 5000 by have := hE.row.len; have := part_short a j; omega)
          clear hE hF
          go_wp2_with fail
          have S1 := Lib.hid (show Below wr.heap.size wr wr.drew from below_drew (Below.refl _ _))
          refine wp_region_noPanic ?_
          refine wp_region_held_drew (S := fun W => Below wr.heap.size wr W) (by kernel_rfl) S1.out (fun _ => ?_)
          refine wpAnyH_take (i := 0) (oi := { dst := some 45, op := Go.Op.move (Go.Operand.tmp 5), type := 24, pos := _, after := #[], guard := none }) (v := ?_) rfl (by kernel_rfl) (by kernel_rfl) (by kernel_rfl) (fun _ _ _ h => h) (Or.inl ⟨by rfl, ?_⟩) S1.out ?_
          rotate_left
          · intro W hW; (go_simp; try with_reducible rfl)
          try simp only [Act.put, List.setIfInBounds_toArray, List.set_cons_zero, List.set_cons_succ]
          refine wpAnyH_take (i := 1) (oi := { dst := some 46, op := Go.Op.move (Go.Operand.tmp 7), type := 3, pos := _, after := #[], guard := none }) (v := ?_) rfl (by kernel_rfl) (by kernel_rfl) (by kernel_rfl) (fun _ _ _ h => h) (Or.inl ⟨by rfl, ?_⟩) S1.out ?_
          rotate_left
          · intro W hW; (go_simp; try with_reducible rfl)
          try simp only [Act.put, List.setIfInBounds_toArray, List.set_cons_zero, List.set_cons_succ]
          refine wpAnyH_take (i := 2) (oi := { dst := some 47, op := Go.Op.indexAddr 24 (Go.Operand.tmp 45) (Go.Operand.tmp 46), type := 0, pos := _, after := #[{ on := 0, ground := Go.Ground.data }, { on := 1, ground := Go.Ground.data }], guard := none }) (v := .pointer (some ⟨G, p, none⟩)) rfl (by kernel_rfl) (by kernel_rfl) (by kernel_rfl) (fun _ _ _ h => h) (Or.inl ⟨by rfl, fun W hW => exec_index40 _ _ rfl Ap nq cp G p j D1 m1 k1 _ _ rfl rfl (by first | rfl | omega) E.out⟩) S1.out ?_
          try simp only [Act.put, List.setIfInBounds_toArray, List.set_cons_zero, List.set_cons_succ]
          refine wpAnyH_take (i := 3) (oi := { dst := some 48, op := Go.Op.load 22 (Go.Operand.tmp 47), type := 22, pos := _, after := #[{ on := 2, ground := Go.Ground.data }], guard := none }) (v := ?_) rfl (by kernel_rfl) (by kernel_rfl) (by kernel_rfl) (fun _ _ _ h => h) (Or.inl ⟨by rfl, ?_⟩) S1.out ?_
          rotate_left
          · intro W hW; have c0 := (E.out.below hW).cell; (go_simp; try with_reducible rfl)
          try simp only [Act.put, List.setIfInBounds_toArray, List.set_cons_zero, List.set_cons_succ]
          refine wpAnyH_take (i := 4) (oi := { dst := some 49, op := Go.Op.move (Go.Operand.tmp 6), type := 24, pos := _, after := #[], guard := none }) (v := ?_) rfl (by kernel_rfl) (by kernel_rfl) (by kernel_rfl) (fun _ _ _ h => h) (Or.inl ⟨by rfl, ?_⟩) S1.out ?_
          rotate_left
          · intro W hW; (go_simp; try with_reducible rfl)
          try simp only [Act.put, List.setIfInBounds_toArray, List.set_cons_zero, List.set_cons_succ]
          refine wpAnyH_take (i := 5) (oi := { dst := some 50, op := Go.Op.move (Go.Operand.tmp 7), type := 3, pos := _, after := #[], guard := none }) (v := ?_) rfl (by kernel_rfl) (by kernel_rfl) (by kernel_rfl) (fun _ _ _ h => h) (Or.inl ⟨by rfl, ?_⟩) S1.out ?_
          rotate_left
          · intro W hW; (go_simp; try with_reducible rfl)
          try simp only [Act.put, List.setIfInBounds_toArray, List.set_cons_zero, List.set_cons_succ]
          refine wpAnyH_take (i := 6) (oi := { dst := some 51, op := Go.Op.indexAddr 24 (Go.Operand.tmp 49) (Go.Operand.tmp 50), type := 0, pos := _, after := #[{ on := 4, ground := Go.Ground.data }, { on := 5, ground := Go.Ground.data }], guard := none }) (v := .pointer (some ⟨G2, p2, none⟩)) rfl (by kernel_rfl) (by kernel_rfl) (by kernel_rfl) (fun _ _ _ h => h) (Or.inl ⟨by rfl, fun W hW => exec_index40 _ _ rfl Aq nq cq G2 p2 j D2 m2 k2 _ _ rfl rfl (by first | rfl | omega) F.out⟩) S1.out ?_
          try simp only [Act.put, List.setIfInBounds_toArray, List.set_cons_zero, List.set_cons_succ]
          refine wpAnyH_take (i := 7) (oi := { dst := some 52, op := Go.Op.load 22 (Go.Operand.tmp 51), type := 22, pos := _, after := #[{ on := 6, ground := Go.Ground.data }], guard := none }) (v := ?_) rfl (by kernel_rfl) (by kernel_rfl) (by kernel_rfl) (fun _ _ _ h => h) (Or.inl ⟨by rfl, ?_⟩) S1.out ?_
          rotate_left
          · intro W hW; have c0 := (F.out.below hW).cell; (go_simp; try with_reducible rfl)
          try simp only [Act.put, List.setIfInBounds_toArray, List.set_cons_zero, List.set_cons_succ]
          refine wpAnyH_ready (rs := [8]) (by kernel_rfl) (by simp) ?_
          refine AllReadyH.cons (o := { dst := some 53, op := Go.Op.call { callee := Go.Callee.value (Go.Operand.func 9), args := #[Go.Operand.tmp 48, Go.Operand.tmp 52], argTypes := #[22, 22] }, type := 4, pos := _, after := #[{ on := 3, ground := Go.Ground.data }, { on := 7, ground := Go.Ground.data }], guard := none }) rfl (fun K hK => ?_) AllReadyH.nil
          go_simp
          refine (rows_is _ _ _ _ _ _ _ _ true _ (E.out.row.below S1.out) (F.out.row.below S1.out) LM.out (Lib.hid (decide_eq_true rfl))).mono ?_
          rintro e w4 ⟨rfl, b4⟩
          have S4 := Lib.hid (S1.out.trans (b4.mono S1.out.size))
          clear b4
          go_wp2_with fail
          refine hK.out _ _ ?_ (fun _ => ?_)
          · exact S4.out
          clear hK K
          try simp only [Act.put, List.setIfInBounds_toArray, List.set_cons_zero, List.set_cons_succ]
          refine wpAnyH_take (i := 9) (oi := { dst := some 54, op := Go.Op.unOp Go.UnOp.not 4 (Go.Operand.tmp 53), type := 4, pos := _, after := #[{ on := 8, ground := Go.Ground.data }], guard := none }) (v := ?_) rfl (by kernel_rfl) (by kernel_rfl) (by kernel_rfl) (fun _ _ _ h => h) (Or.inl ⟨by rfl, ?_⟩) S4.out ?_
          rotate_left
          · intro W hW; (go_simp; try with_reducible rfl)
          try simp only [Act.put, List.setIfInBounds_toArray, List.set_cons_zero, List.set_cons_succ]
          refine wpAnyH_done (by kernel_rfl) ?_ _
          refine NoPanic.normal ?_
          go_wp2_with fail
          go_roundw
          case rel => exact ⟨j + 1, by omega, by go_num, BB.out.trans (S4.out.mono BB.out.size), BC.out.trans (S4.out.mono BC.out.size)⟩
          case measure => simp [intOf]; omega
        · obtain rfl : nq = j := by omega
          clear hlt hj
          go_wp2_with fail
          refine (split_is 10 #[] (fun _ _ => rfl) even A n cap a _ (HA.out.below BB.out) (by omega) (fun x W hx _ => even_is x W hx)).mono ?_
          rintro e w6 ⟨⟨X, nx, cx, Y, ny, cy, rfl, rx, ry, _, _, zx, zy⟩, b6⟩
          have B6 := Lib.hid (step_ BB.out b6)
          have RX := Lib.hid rx
          have RY := Lib.hid ry
          have ZX := Lib.hid zx
          have ZY := Lib.hid zy
          have SX := Lib.hid ((norm_st HA.out.ok).filter even)
          have SY := Lib.hid ((norm_st HA.out.ok).filter fun x => !even x)
          have hnx : nx ≤ 60 := by have h9 := List.length_filter_le even (norm a); rw [rx.len] at h9; have := LP.out; omega
          have hny : ny ≤ 60 := by have h9 := List.length_filter_le (fun x => !even x) (norm a); rw [ry.len] at h9; have := LP.out; omega
          clear rx ry zx zy b6
          go_wp2_with fail
          go_loopw [11] (fun i wr => ∃ j : Nat, j ≤ nx ∧ i = .int .i64 j ∧ Below w.heap.size w wr ∧ Below w6.heap.size w6 wr) (fun i _ => nx - (intOf i).toNat)
          case atStart => exact ⟨0, Nat.zero_le _, rfl, B6.out, Below.refl _ _⟩
          case round =>
            obtain ⟨j, hj, rfl, hb, hb2⟩ := hrel
            have BB := Lib.hid hb
            have BC := Lib.hid hb2
            clear hb hb2
            by_cases hlt : j < nx
            · obtain ⟨G, p0, hE⟩ := (RX.out.below BC.out).elem j hlt
              have E := Lib.hid hE
              have MM := Lib.hid (show ((norm a).filter even).getD j azero ∈ (norm a).filter even by rw [List.getD_eq_getElem?_getD, List.getElem?_eq_getElem (by rw [RX.out.len]; exact hlt), Option.getD_some]; exact List.getElem_mem _)
              obtain ⟨x, hx⟩ : ∃ x, ((norm a).filter even).getD j azero = x := ⟨_, rfl⟩
              rw [hx] at E MM
              clear hE hx
              have HP := Lib.hid ((List.mem_filter.1 MM.out).2)
              go_wp2_with (first
                | go_skip
                | refine wpList_index rfl _ _ rfl X nx cx G p0 j x _ rfl rfl (by first | rfl | omega) E.out ?_
                | refine wpList_load_amx rfl _ rfl G p0 x rfl E.out.rg E.out.ok ?_)
              refine (even_is x _ E.out.ok).mono ?_
              rw [HP.out]
              rintro e w3 ⟨rfl, b3⟩
              have B3 := Lib.hid b3
              clear b3
              go_wp2_with fail
              go_roundw
              case rel => exact ⟨j + 1, by omega, by go_num, step_ BB.out B3.out, BC.out.trans (B3.out.mono BC.out.size)⟩
              case measure => simp [intOf]; omega
            · obtain rfl : nx = j := by omega
              clear hlt hj
              go_wp2_with fail
              go_loopw [12] (fun i wr => ∃ j : Nat, j ≤ ny ∧ i = .int .i64 j ∧ Below w.heap.size w wr ∧ Below w6.heap.size w6 wr) (fun i _ => ny - (intOf i).toNat)
              case atStart => exact ⟨0, Nat.zero_le _, rfl, BB.out, BC.out⟩
              case round =>
                obtain ⟨j, hj, rfl, hb, hb2⟩ := hrel
                have BB := Lib.hid hb
                have BC := Lib.hid hb2
                clear hb hb2
                by_cases hlt : j < ny
                · obtain ⟨G, p0, hE⟩ := (RY.out.below BC.out).elem j hlt
                  have E := Lib.hid hE
                  have MM := Lib.hid (show ((norm a).filter fun x => !even x).getD j azero ∈ (norm a).filter fun x => !even x by rw [List.getD_eq_getElem?_getD, List.getElem?_eq_getElem (by rw [RY.out.len]; exact hlt), Option.getD_some]; exact List.getElem_mem _)
                  obtain ⟨x, hx⟩ : ∃ x, ((norm a).filter fun x => !even x).getD j azero = x := ⟨_, rfl⟩
                  rw [hx] at E MM
                  clear hE hx
                  have HP := Lib.hid (by have h9 := (List.mem_filter.1 MM.out).2; simpa using h9)
                  go_wp2_with (first
                    | go_skip
                    | refine wpList_index rfl _ _ rfl Y ny cy G p0 j x _ rfl rfl (by first | rfl | omega) E.out ?_
                    | refine wpList_load_amx rfl _ rfl G p0 x rfl E.out.rg E.out.ok ?_)
                  refine (even_is x _ E.out.ok).mono ?_
                  rw [HP.out]
                  rintro e w3 ⟨rfl, b3⟩
                  have B3 := Lib.hid b3
                  clear b3
                  go_wp2_with fail
                  go_roundw
                  case rel => exact ⟨j + 1, by omega, by go_num, step_ BB.out B3.out, BC.out.trans (B3.out.mono BC.out.size)⟩
                  case measure => simp [intOf]; omega
                · obtain rfl : ny = j := by omega
                  clear hlt hj
                  go_wp2_with fail
                  refine (rightR_is _ _ _ _ true _ (RX.out.below BC.out) (by omega) (Lib.hid ((rightR_st SX.out.ok).2 SX.out))).mono ?_
                  rintro e w8 ⟨rfl, b8⟩
                  have B8 := Lib.hid (step_ BB.out b8)
                  have C8 := Lib.hid (step_ BC.out b8)
                  clear b8
                  go_wp2_with fail
                  refine (rightR_is _ _ _ _ true _ (RY.out.below C8.out) (by omega) (Lib.hid ((rightR_st SY.out.ok).2 SY.out))).mono ?_
                  rintro e w9 ⟨rfl, b9⟩
                  have B9 := Lib.hid (step_ B8.out b9)
                  have C9 := Lib.hid (step_ C8.out b9)
                  clear b9
                  have O0 := Lib.hid (ownR_made w9)
                  have N0 := Lib.hid (new_below w9 (.cells #[] 38))
                  have LA := Lib.hid (show ([] ++ (norm a).filter even).length + ny ≤ 5000 by rw [List.nil_append, RX.out.len]; omega)
                  have hb := run_none46
                  go_wp2_with (first
                    | go_skip
                    | (refine wanted_on rfl ?_; refine wpList_app_row rfl _ _ rfl w9.heap.size _ [] X nx cx ((norm a).filter even) rfl rfl O0.out ((RX.out.below C9.out).below N0.out) ZX.out (by simp; omega) (by simp) ?_; intro Da ma ca wa Oa Ba)
                    | (refine wanted_on rfl ?_; refine wpList_app_row rfl _ _ rfl w9.heap.size _ _ Y ny cy ((norm a).filter fun x => !even x) rfl rfl Oa.out ((RY.out.below C9.out).below (N0.out.trans Ba.out)) ZY.out LA.out (by have := Ba.out.size; simp at this; omega) ?_; intro Db mb cb wb Ob Bb))
                  have BX := Lib.hid (step_ B9.out ((N0.out.trans Ba.out).trans Bb.out))
                  have RB := Lib.hid Ob.out.rowV
                  have LB := Lib.hid (show mb ≤ 1000 by have h9 := RB.out.len; rw [List.nil_append, List.length_append, RX.out.len, RY.out.len] at h9; omega)
                  have SM := Lib.hid (show same ([] ++ (norm a).filter even ++ (norm a).filter fun x => !even x) a = true from decide_eq_true (by rw [List.nil_append]; exact split_all HA.out.ok even))
                  refine (refSame_is _ _ _ _ _ _ _ a true _ RB.out (HA.out.below BX.out) LB.out (by omega) SM).mono ?_
                  rintro e wc ⟨rfl, bc⟩
                  have BY := Lib.hid (step_ BX.out bc)
                  clear bc
                  go_wp2_with fail
                  refine (diff_is _ _ _ _ _ _ a b _ (HA.out.below BY.out) (HB.out.below BY.out) (by omega) (by omega)).mono ?_
                  rintro e wd ⟨⟨Ad, nd, cd, rfl, rd⟩, bd⟩
                  have BD := Lib.hid (step_ BY.out bd)
                  have RD := Lib.hid rd
                  have LD := Lib.hid (show nd ≤ 5000 by have h9 := diff_len' a b; rw [rd.len, HA.out.len] at h9; omega)
                  clear rd bd
                  go_wp2_with fail
                  refine (refDiff_is _ _ _ _ _ _ a b _ (HA.out.below BD.out) (HB.out.below BD.out) (by omega) (by omega)).mono ?_
                  rintro e we ⟨⟨Ae, ne, ce, rfl, re⟩, be⟩
                  have BE := Lib.hid (step_ BD.out be)
                  have RE := Lib.hid re
                  have RF := Lib.hid (RD.out.below be)
                  clear re be
                  go_wp2_with fail
                  refine (rows_is _ _ _ _ _ _ _ _ true _ RF.out RE.out LD.out (Lib.hid (decide_eq_true rfl))).mono ?_
                  rintro e wf ⟨rfl, bf⟩
                  have BF := Lib.hid (step_ BE.out bf)
                  clear bf
                  go_wp2_with fail
                  refine (life_is _).mono ?_
                  rintro e wl ⟨rfl, bl⟩
                  have BL := Lib.hid (step_ BF.out bl)
                  clear bl
                  go_wp2_with fail
                  go_ret
                  exact ⟨rfl, BL.out⟩
    · have hd2 : decide ((60 : Int) < (m : Int)) = true := decide_eq_true (by omega)
      clear hn hm
      go_enter Try.func3, Try.ntmps3
      go_wp2_with (first | go_skip | fail)
      refine (DD.out _ B0.out).mono ?_
      rintro e w2 ⟨rfl, b2⟩
      have B2 := Lib.hid b2
      clear b2
      go_wp2_with fail
      go_ret
      exact ⟨rfl, B2.out⟩
  · have hd1 : decide ((60 : Int) < (n : Int)) = true := decide_eq_true (by omega)
    clear hn
    go_enter Try.func3, Try.ntmps3
    go_wp2_with (first | go_skip | fail)
    refine (DD.out _ B0.out).mono ?_
    rintro e w2 ⟨rfl, b2⟩
    have B2 := Lib.hid b2
    clear b2
    go_wp2_with fail
    go_ret
    exact ⟨rfl, B2.out⟩
end Go.Proofs.Yteocfhbfdhokbaa
