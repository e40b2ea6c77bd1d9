/- The contract of Join of the reference: rows of atoms. -/
import Derived.Test.YtgggjhbijnndhaaRefAll
namespace Go.Proofs.Ytgggjhbijnndhaa
open Go.RowKit

set_option maxRecDepth 100000 in
set_option maxHeartbeats 4000000 in
theorem refJoin_is (A B : Option Addr) (n m cap cap2 : Nat) (a b : List Am) (w : World) (h : RowV w A n cap a) (h2 : RowV w B m cap2 b) (hn : n ≤ 1000) (hm : m ≤ 1000) : Calls Try.prog 17 #[.slice A n cap, .slice B m cap2] w (GivesR w (join a b)) := by
  have HJ := Lib.hid (merge_join h.ok h2.ok)
  have H := Lib.hid h
  have J := Lib.hid h2
  clear h h2
  go_enter Try.func17, Try.ntmps17
  go_wp2_with fail
  refine (refNorm_is A n cap a _ H.out hn).mono ?_
  rintro e w1 ⟨⟨A1, n1, c1, rfl, r1⟩, b1⟩
  have B1 := Lib.hid b1
  have R1' := Lib.hid r1
  clear b1 r1
  go_wp2_with fail
  refine (refNorm_is B m cap2 b _ (J.out.below B1.out) hm).mono ?_
  rintro e w2 ⟨⟨A2, n2, c2, rfl, r2⟩, b2⟩
  have B2 := Lib.hid (step_ B1.out b2)
  have R1 := Lib.hid (R1'.out.below b2)
  have R2 := Lib.hid r2
  have hn1 : n1 ≤ 1000 := by have := norm_len a; rw [R1.out.len, H.out.len] at this; omega
  have hn2 : n2 ≤ 1000 := by have := norm_len b; rw [R2.out.len, J.out.len] at this; omega
  clear b2 r2 R1'
  obtain ⟨X, hX⟩ : ∃ X, norm a = X := ⟨_, rfl⟩
  obtain ⟨Y, hY⟩ : ∃ Y, norm b = Y := ⟨_, rfl⟩
  rw [hX] at R1 HJ
  rw [hY] at R2 HJ
  clear hX hY H J
  go_wp2_with fail
  go_loopw [5, 6, 7] (fun v p q wr => ∃ (i k : Nat) (out : List Am), i ≤ n1 ∧ k ≤ n2 ∧ p = .int .i64 i ∧ q = .int .i64 k ∧ OwnR wr w2.heap.size v out ∧ JI X Y i k out ∧ Below w2.heap.size w2 wr) (fun _ p q _ => (n1 - (intOf p).toNat) + (n2 - (intOf q).toNat))
  case atStart => exact ⟨0, 0, [], Nat.zero_le _, Nat.zero_le _, rfl, rfl, ownR_nil _ _, rfl, Below.refl _ _⟩
  case round =>
    obtain ⟨i, k, out, hi, hk, rfl, rfl, ho, hj, hb⟩ := hrel
    have OO := Lib.hid ho
    have II := Lib.hid hj
    have BB := Lib.hid hb
    have LL := Lib.hid (show out.length ≤ 5000 by have := hj.len; have := R1.out.len; have := R2.out.len; omega)
    clear ho hj hb
    by_cases hki : k < n2
    · obtain ⟨G2, p2, hF⟩ := R2.out.elem k hki
      have F0 := Lib.hid hF
      have U := Lib.hid (drop_getD (l := Y) (j := k) (by have := R2.out.len; omega))
      obtain ⟨y, hy⟩ : ∃ y, Y.getD k azero = y := ⟨_, rfl⟩
      rw [hy] at F0 U
      clear hF hy
      have F := Lib.hid (F0.out.below BB.out)
      have hkn : ((k : Int) == (n2 : Int)) = false := beq_eq_false_iff_ne.2 (by omega)
      by_cases hii : i < n1
      · obtain ⟨G, p, hE⟩ := R1.out.elem i hii
        have E0 := Lib.hid hE
        have T := Lib.hid (drop_getD (l := X) (j := i) (by have := R1.out.len; omega))
        obtain ⟨x, hx⟩ : ∃ x, X.getD i azero = x := ⟨_, rfl⟩
        rw [hx] at E0 T
        clear hE hx
        have E := Lib.hid (E0.out.below BB.out)
        have hin : ((i : Int) == (n1 : Int)) = false := beq_eq_false_iff_ne.2 (by omega)
        cases hl : x.k.less y.k with
        | true =>
          have HL := Lib.hid hl
          have IN := Lib.hid (II.out.lt T.out U.out hl)
          clear hl
          go_wp2_with fail
          refine region_later (by kernel_rfl) (by kernel_rfl) ?_
          go_big_quiet_step (fail)
          go_big_quiet_step (fail)
          go_big_quiet_step (fail)
          go_big_quiet_step (fail)
          go_big_quiet_step (fail)
          go_big_quiet_step (fail)
          go_big_quiet_step (fail)
          go_big_quiet_step (fail)
          go_big_quiet_step (fail)
          go_big_quiet_step (fail)
          go_big_quiet_step (fail)
          go_big_quiet_step (fail)
          (go_big_quiet_want; refine quiet_index _ _ rfl A1 n1 c1 G p i x _ rfl rfl (by first | rfl | omega) E.out ?_; go_simp; go_big_quiet_on)
          go_big_quiet_step (fail)
          (go_big_quiet_want; refine quiet_load_kyx G p x.k _ rfl rfl (range_ak E.out.rg) E.out.blk E.out.ok.k.ml ?_; go_simp; go_big_quiet_on)
          go_big_quiet_step (fail)
          go_big_quiet_step (fail)
          (go_big_quiet_want; refine quiet_index _ _ rfl A2 n2 c2 G2 p2 k y _ rfl rfl (by first | rfl | omega) F.out ?_; go_simp; go_big_quiet_on)
          go_big_quiet_step (fail)
          (go_big_quiet_want; refine quiet_load_kyx G2 p2 y.k _ rfl rfl (range_ak F.out.rg) F.out.blk F.out.ok.k.ml ?_; go_simp; go_big_quiet_on)
          go_big_quiet_step (exact later_call (refLess_is x.k y.k true _ E.out.ok.k F.out.ok.k HL))
          go_big_quiet_step (fail)
          go_big_quiet_step (fail)
          go_big_quiet_step (fail)
          refine wpQuiet_nil ?_
          intro v3 hw3
          replace E := Lib.hid (E.out.below hw3)
          replace F := Lib.hid (F.out.below hw3)
          replace OO := Lib.hid (OO.out.below hw3)
          replace BB := Lib.hid (BB.out.trans (hw3.mono BB.out.size))
          clear hw3
          have HB := Lib.hid BB.out.size
          go_wp2_with (first
            | go_skip
            | refine wpList_index rfl _ _ rfl A1 n1 c1 G p i x _ rfl rfl (by first | rfl | omega) E.out ?_
            | refine wpList_load_amx rfl _ rfl G p x rfl E.out.rg E.out.ok ?_
            | (refine wpList_one46 rfl _ rfl x rfl E.out.ok ?_; intro g6 w6 e6 N6 B6)
            | (refine wpList_app rfl _ _ rfl w2.heap.size _ out x g6 rfl rfl (OO.out.below B6.out) E.out.ok N6.out LL.out (Nat.le_trans HB.out B6.out.size) ?_; intro D7 m7 c7 w7 e7 O7 B7 G7))
          go_roundw
          case rel => exact ⟨i + 1, k, _, by omega, by omega, by go_num, by go_num, O7.out, IN.out, BB.out.trans ((B6.out.mono HB.out).trans B7.out)⟩
          case measure => simp [intOf]; omega
        | false =>
          have HL := Lib.hid hl
          cases hg : y.k.less x.k with
          | true =>
            have HG := Lib.hid hg
            have IN := Lib.hid (II.out.gt T.out U.out hl hg)
            clear hl hg
            go_wp2_with fail
            refine region_later (by kernel_rfl) (by kernel_rfl) ?_
            go_big_quiet_step (fail)
            go_big_quiet_step (fail)
            go_big_quiet_step (fail)
            go_big_quiet_step (fail)
            go_big_quiet_step (fail)
            go_big_quiet_step (fail)
            go_big_quiet_step (fail)
            go_big_quiet_step (fail)
            go_big_quiet_step (fail)
            go_big_quiet_step (fail)
            go_big_quiet_step (fail)
            go_big_quiet_step (fail)
            (go_big_quiet_want; refine quiet_index _ _ rfl A1 n1 c1 G p i x _ rfl rfl (by first | rfl | omega) E.out ?_; go_simp; go_big_quiet_on)
            go_big_quiet_step (fail)
            (go_big_quiet_want; refine quiet_load_kyx G p x.k _ rfl rfl (range_ak E.out.rg) E.out.blk E.out.ok.k.ml ?_; go_simp; go_big_quiet_on)
            go_big_quiet_step (fail)
            go_big_quiet_step (fail)
            (go_big_quiet_want; refine quiet_index _ _ rfl A2 n2 c2 G2 p2 k y _ rfl rfl (by first | rfl | omega) F.out ?_; go_simp; go_big_quiet_on)
            go_big_quiet_step (fail)
            (go_big_quiet_want; refine quiet_load_kyx G2 p2 y.k _ rfl rfl (range_ak F.out.rg) F.out.blk F.out.ok.k.ml ?_; go_simp; go_big_quiet_on)
            go_big_quiet_step (exact later_call (refLess_is x.k y.k false _ E.out.ok.k F.out.ok.k HL))
            go_big_quiet_step (fail)
            go_big_quiet_step (fail)
            go_big_quiet_step (fail)
            refine wpQuiet_nil ?_
            intro v3 hw3
            replace E := Lib.hid (E.out.below hw3)
            replace F := Lib.hid (F.out.below hw3)
            replace OO := Lib.hid (OO.out.below hw3)
            replace BB := Lib.hid (BB.out.trans (hw3.mono BB.out.size))
            clear hw3
            go_wp2_with fail
            refine region_later (by kernel_rfl) (by kernel_rfl) ?_
            go_big_quiet_step (fail)
            go_big_quiet_step (fail)
            go_big_quiet_step (fail)
            go_big_quiet_step (fail)
            go_big_quiet_step (fail)
            go_big_quiet_step (fail)
            go_big_quiet_step (fail)
            (go_big_quiet_want; refine quiet_index _ _ rfl A2 n2 c2 G2 p2 k y _ rfl rfl (by first | rfl | omega) F.out ?_; go_simp; go_big_quiet_on)
            go_big_quiet_step (fail)
            (go_big_quiet_want; refine quiet_load_kyx G2 p2 y.k _ rfl rfl (range_ak F.out.rg) F.out.blk F.out.ok.k.ml ?_; go_simp; go_big_quiet_on)
            go_big_quiet_step (fail)
            go_big_quiet_step (fail)
            (go_big_quiet_want; refine quiet_index _ _ rfl A1 n1 c1 G p i x _ rfl rfl (by first | rfl | omega) E.out ?_; go_simp; go_big_quiet_on)
            go_big_quiet_step (fail)
            (go_big_quiet_want; refine quiet_load_kyx G p x.k _ rfl rfl (range_ak E.out.rg) E.out.blk E.out.ok.k.ml ?_; go_simp; go_big_quiet_on)
            go_big_quiet_step (exact later_call (refLess_is y.k x.k true _ F.out.ok.k E.out.ok.k HG))
            go_big_quiet_step (fail)
            go_big_quiet_step (fail)
            refine wpQuiet_nil ?_
            intro v4 hw4
            replace E := Lib.hid (E.out.below hw4)
            replace F := Lib.hid (F.out.below hw4)
            replace OO := Lib.hid (OO.out.below hw4)
            replace BB := Lib.hid (BB.out.trans (hw4.mono BB.out.size))
            clear hw4
            have HB := Lib.hid BB.out.size
            go_wp2_with (first
              | go_skip
              | refine wpList_index rfl _ _ rfl A2 n2 c2 G2 p2 k y _ rfl rfl (by first | rfl | omega) F.out ?_
              | refine wpList_load_amx rfl _ rfl G2 p2 y rfl F.out.rg F.out.ok ?_
              | (refine wpList_one46 rfl _ rfl y rfl F.out.ok ?_; intro g6 w6 e6 N6 B6)
              | (refine wpList_app rfl _ _ rfl w2.heap.size _ out y g6 rfl rfl (OO.out.below B6.out) F.out.ok N6.out LL.out (Nat.le_trans HB.out B6.out.size) ?_; intro D7 m7 c7 w7 e7 O7 B7 G7))
            go_roundw
            case rel => exact ⟨i, k + 1, _, by omega, by omega, by go_num, by go_num, O7.out, IN.out, BB.out.trans ((B6.out.mono HB.out).trans B7.out)⟩
            case measure => simp [intOf]; omega
          | false =>
            have HG := Lib.hid hg
            have IN := Lib.hid (II.out.eq T.out U.out hl hg)
            clear hl hg
            go_wp2_with fail
            refine region_later (by kernel_rfl) (by kernel_rfl) ?_
            go_big_quiet_step (fail)
            go_big_quiet_step (fail)
            go_big_quiet_step (fail)
            go_big_quiet_step (fail)
            go_big_quiet_step (fail)
            go_big_quiet_step (fail)
            go_big_quiet_step (fail)
            go_big_quiet_step (fail)
            go_big_quiet_step (fail)
            go_big_quiet_step (fail)
            go_big_quiet_step (fail)
            go_big_quiet_step (fail)
            (go_big_quiet_want; refine quiet_index _ _ rfl A1 n1 c1 G p i x _ rfl rfl (by first | rfl | omega) E.out ?_; go_simp; go_big_quiet_on)
            go_big_quiet_step (fail)
            (go_big_quiet_want; refine quiet_load_kyx G p x.k _ rfl rfl (range_ak E.out.rg) E.out.blk E.out.ok.k.ml ?_; go_simp; go_big_quiet_on)
            go_big_quiet_step (fail)
            go_big_quiet_step (fail)
            (go_big_quiet_want; refine quiet_index _ _ rfl A2 n2 c2 G2 p2 k y _ rfl rfl (by first | rfl | omega) F.out ?_; go_simp; go_big_quiet_on)
            go_big_quiet_step (fail)
            (go_big_quiet_want; refine quiet_load_kyx G2 p2 y.k _ rfl rfl (range_ak F.out.rg) F.out.blk F.out.ok.k.ml ?_; go_simp; go_big_quiet_on)
            go_big_quiet_step (exact later_call (refLess_is x.k y.k false _ E.out.ok.k F.out.ok.k HL))
            go_big_quiet_step (fail)
            go_big_quiet_step (fail)
            go_big_quiet_step (fail)
            refine wpQuiet_nil ?_
            intro v3 hw3
            replace E := Lib.hid (E.out.below hw3)
            replace F := Lib.hid (F.out.below hw3)
            replace OO := Lib.hid (OO.out.below hw3)
            replace BB := Lib.hid (BB.out.trans (hw3.mono BB.out.size))
            clear hw3
            go_wp2_with fail
            refine region_later (by kernel_rfl) (by kernel_rfl) ?_
            go_big_quiet_step (fail)
            go_big_quiet_step (fail)
            go_big_quiet_step (fail)
            go_big_quiet_step (fail)
            go_big_quiet_step (fail)
            go_big_quiet_step (fail)
            go_big_quiet_step (fail)
            (go_big_quiet_want; refine quiet_index _ _ rfl A2 n2 c2 G2 p2 k y _ rfl rfl (by first | rfl | omega) F.out ?_; go_simp; go_big_quiet_on)
            go_big_quiet_step (fail)
            (go_big_quiet_want; refine quiet_load_kyx G2 p2 y.k _ rfl rfl (range_ak F.out.rg) F.out.blk F.out.ok.k.ml ?_; go_simp; go_big_quiet_on)
            go_big_quiet_step (fail)
            go_big_quiet_step (fail)
            (go_big_quiet_want; refine quiet_index _ _ rfl A1 n1 c1 G p i x _ rfl rfl (by first | rfl | omega) E.out ?_; go_simp; go_big_quiet_on)
            go_big_quiet_step (fail)
            (go_big_quiet_want; refine quiet_load_kyx G p x.k _ rfl rfl (range_ak E.out.rg) E.out.blk E.out.ok.k.ml ?_; go_simp; go_big_quiet_on)
            go_big_quiet_step (exact later_call (refLess_is y.k x.k false _ F.out.ok.k E.out.ok.k HG))
            go_big_quiet_step (fail)
            go_big_quiet_step (fail)
            refine wpQuiet_nil ?_
            intro v4 hw4
            replace E := Lib.hid (E.out.below hw4)
            replace F := Lib.hid (F.out.below hw4)
            replace OO := Lib.hid (OO.out.below hw4)
            replace BB := Lib.hid (BB.out.trans (hw4.mono BB.out.size))
            clear hw4
            go_wp2_with fail
            have HB := Lib.hid BB.out.size
            have S1 := Lib.hid (show Below w2.heap.size v4 v4.drew from below_drew (Below.refl _ _))
            refine wp_region_noPanic ?_
            refine wp_region_held_drew (S := fun W => Below w2.heap.size v4 W) (by kernel_rfl) S1.out (fun _ => ?_)
            refine wpAnyH_take (i := 0) (oi := { dst := some 22, op := Go.Op.move (Go.Operand.tmp 5), type := 22, pos := _, after := #[], guard := none }) (v := ?_) rfl (by kernel_rfl) (by kernel_rfl) (by kernel_rfl) (fun _ _ _ h => h) (Or.inl ⟨by rfl, ?_⟩) S1.out ?_
            rotate_left
            · intro W hW; (go_simp; try with_reducible rfl)
            try simp only [Act.put, List.setIfInBounds_toArray, List.set_cons_zero, List.set_cons_succ]
            refine wpAnyH_take (i := 1) (oi := { dst := some 23, op := Go.Op.move (Go.Operand.tmp 0), type := 22, pos := _, after := #[], guard := none }) (v := ?_) rfl (by kernel_rfl) (by kernel_rfl) (by kernel_rfl) (fun _ _ _ h => h) (Or.inl ⟨by rfl, ?_⟩) S1.out ?_
            rotate_left
            · intro W hW; (go_simp; try with_reducible rfl)
            try simp only [Act.put, List.setIfInBounds_toArray, List.set_cons_zero, List.set_cons_succ]
            refine wpAnyH_take (i := 2) (oi := { dst := some 24, op := Go.Op.move (Go.Operand.tmp 6), type := 3, pos := _, after := #[], guard := none }) (v := ?_) rfl (by kernel_rfl) (by kernel_rfl) (by kernel_rfl) (fun _ _ _ h => h) (Or.inl ⟨by rfl, ?_⟩) S1.out ?_
            rotate_left
            · intro W hW; (go_simp; try with_reducible rfl)
            try simp only [Act.put, List.setIfInBounds_toArray, List.set_cons_zero, List.set_cons_succ]
            refine wpAnyH_take (i := 3) (oi := { dst := some 25, op := Go.Op.indexAddr 22 (Go.Operand.tmp 23) (Go.Operand.tmp 24), type := 0, pos := _, after := #[{ on := 1, ground := Go.Ground.data }, { on := 2, ground := Go.Ground.data }], guard := none }) (v := .pointer (some ⟨G, p, none⟩)) rfl (by kernel_rfl) (by kernel_rfl) (by kernel_rfl) (fun _ _ _ h => h) (Or.inl ⟨by rfl, fun W hW => exec_index _ _ rfl A1 n1 c1 G p i x _ rfl rfl (by first | rfl | omega) E.out⟩) S1.out ?_
            try simp only [Act.put, List.setIfInBounds_toArray, List.set_cons_zero, List.set_cons_succ]
            refine wpAnyH_take (i := 4) (oi := { dst := some 26, op := Go.Op.fieldAddr 63 (Go.Operand.tmp 25) 0, type := 0, pos := _, after := #[{ on := 3, ground := Go.Ground.data }], guard := none }) (v := ?_) rfl (by kernel_rfl) (by kernel_rfl) (by kernel_rfl) (fun _ _ _ h => h) (Or.inl ⟨by rfl, ?_⟩) S1.out ?_
            rotate_left
            · intro W hW; (go_simp; try with_reducible rfl)
            try simp only [Act.put, List.setIfInBounds_toArray, List.set_cons_zero, List.set_cons_succ]
            refine wpAnyH_take (i := 5) (oi := { dst := some 27, op := Go.Op.load 55 (Go.Operand.tmp 26), type := 55, pos := _, after := #[{ on := 4, ground := Go.Ground.data }], guard := none }) (v := .agg x.k.cells.toArray) rfl (by kernel_rfl) (by kernel_rfl) (by kernel_rfl) (fun _ _ _ h => h) (yieldsIf_load_mid (by rfl) 55 (.tmp 26) rfl G p rfl x.k.cells _ (fun W hW => range_ak (E0.out.below (BB.out.trans hW)).rg) Try.underlying55 rfl (size27 E.out.ok.k.ml)) S1.out ?_
            try simp only [Act.put, List.setIfInBounds_toArray, List.set_cons_zero, List.set_cons_succ]
            refine wpAnyH_take (i := 6) (oi := { dst := some 28, op := Go.Op.move (Go.Operand.tmp 0), type := 22, pos := _, after := #[], guard := none }) (v := ?_) rfl (by kernel_rfl) (by kernel_rfl) (by kernel_rfl) (fun _ _ _ h => h) (Or.inl ⟨by rfl, ?_⟩) S1.out ?_
            rotate_left
            · intro W hW; (go_simp; try with_reducible rfl)
            try simp only [Act.put, List.setIfInBounds_toArray, List.set_cons_zero, List.set_cons_succ]
            refine wpAnyH_take (i := 7) (oi := { dst := some 29, op := Go.Op.move (Go.Operand.tmp 6), type := 3, pos := _, after := #[], guard := none }) (v := ?_) rfl (by kernel_rfl) (by kernel_rfl) (by kernel_rfl) (fun _ _ _ h => h) (Or.inl ⟨by rfl, ?_⟩) S1.out ?_
            rotate_left
            · intro W hW; (go_simp; try with_reducible rfl)
            try simp only [Act.put, List.setIfInBounds_toArray, List.set_cons_zero, List.set_cons_succ]
            refine wpAnyH_take (i := 8) (oi := { dst := some 30, op := Go.Op.indexAddr 22 (Go.Operand.tmp 28) (Go.Operand.tmp 29), type := 0, pos := _, after := #[{ on := 6, ground := Go.Ground.data }, { on := 7, ground := Go.Ground.data }], guard := none }) (v := .pointer (some ⟨G, p, none⟩)) rfl (by kernel_rfl) (by kernel_rfl) (by kernel_rfl) (fun _ _ _ h => h) (Or.inl ⟨by rfl, fun W hW => exec_index _ _ rfl A1 n1 c1 G p i x _ rfl rfl (by first | rfl | omega) E.out⟩) S1.out ?_
            try simp only [Act.put, List.setIfInBounds_toArray, List.set_cons_zero, List.set_cons_succ]
            refine wpAnyH_take (i := 9) (oi := { dst := some 31, op := Go.Op.fieldAddr 63 (Go.Operand.tmp 30) 1, type := 0, pos := _, after := #[{ on := 8, ground := Go.Ground.data }], guard := none }) (v := ?_) rfl (by kernel_rfl) (by kernel_rfl) (by kernel_rfl) (fun _ _ _ h => h) (Or.inl ⟨by rfl, ?_⟩) S1.out ?_
            rotate_left
            · intro W hW; (go_simp; try with_reducible rfl)
            try simp only [Act.put, List.setIfInBounds_toArray, List.set_cons_zero, List.set_cons_succ]
            refine wpAnyH_take (i := 10) (oi := { dst := some 32, op := Go.Op.load 38 (Go.Operand.tmp 31), type := 38, pos := _, after := #[{ on := 9, ground := Go.Ground.data }], guard := none }) (v := .agg x.v.cells.toArray) rfl (by kernel_rfl) (by kernel_rfl) (by kernel_rfl) (fun _ _ _ h => h) (yieldsIf_load_mid (by rfl) 38 (.tmp 31) rfl G (p + 12) rfl x.v.cells _ (fun W hW => range_av (E0.out.below (BB.out.trans hW)).rg E.out.ok) Try.underlying38 rfl (size30 E.out.ok.v.tl)) S1.out ?_
            try simp only [Act.put, List.setIfInBounds_toArray, List.set_cons_zero, List.set_cons_succ]
            refine wpAnyH_take (i := 11) (oi := { dst := some 33, op := Go.Op.move (Go.Operand.tmp 1), type := 22, pos := _, after := #[], guard := none }) (v := ?_) rfl (by kernel_rfl) (by kernel_rfl) (by kernel_rfl) (fun _ _ _ h => h) (Or.inl ⟨by rfl, ?_⟩) S1.out ?_
            rotate_left
            · intro W hW; (go_simp; try with_reducible rfl)
            try simp only [Act.put, List.setIfInBounds_toArray, List.set_cons_zero, List.set_cons_succ]
            refine wpAnyH_take (i := 12) (oi := { dst := some 34, op := Go.Op.move (Go.Operand.tmp 7), type := 3, pos := _, after := #[], guard := none }) (v := ?_) rfl (by kernel_rfl) (by kernel_rfl) (by kernel_rfl) (fun _ _ _ h => h) (Or.inl ⟨by rfl, ?_⟩) S1.out ?_
            rotate_left
            · intro W hW; (go_simp; try with_reducible rfl)
            try simp only [Act.put, List.setIfInBounds_toArray, List.set_cons_zero, List.set_cons_succ]
            refine wpAnyH_take (i := 13) (oi := { dst := some 35, op := Go.Op.indexAddr 22 (Go.Operand.tmp 33) (Go.Operand.tmp 34), type := 0, pos := _, after := #[{ on := 11, ground := Go.Ground.data }, { on := 12, ground := Go.Ground.data }], guard := none }) (v := .pointer (some ⟨G2, p2, none⟩)) rfl (by kernel_rfl) (by kernel_rfl) (by kernel_rfl) (fun _ _ _ h => h) (Or.inl ⟨by rfl, fun W hW => exec_index _ _ rfl A2 n2 c2 G2 p2 k y _ rfl rfl (by first | rfl | omega) F.out⟩) S1.out ?_
            try simp only [Act.put, List.setIfInBounds_toArray, List.set_cons_zero, List.set_cons_succ]
            refine wpAnyH_take (i := 14) (oi := { dst := some 36, op := Go.Op.fieldAddr 63 (Go.Operand.tmp 35) 1, type := 0, pos := _, after := #[{ on := 13, ground := Go.Ground.data }], guard := none }) (v := ?_) rfl (by kernel_rfl) (by kernel_rfl) (by kernel_rfl) (fun _ _ _ h => h) (Or.inl ⟨by rfl, ?_⟩) S1.out ?_
            rotate_left
            · intro W hW; (go_simp; try with_reducible rfl)
            try simp only [Act.put, List.setIfInBounds_toArray, List.set_cons_zero, List.set_cons_succ]
            refine wpAnyH_take (i := 15) (oi := { dst := some 37, op := Go.Op.load 38 (Go.Operand.tmp 36), type := 38, pos := _, after := #[{ on := 14, ground := Go.Ground.data }], guard := none }) (v := .agg y.v.cells.toArray) rfl (by kernel_rfl) (by kernel_rfl) (by kernel_rfl) (fun _ _ _ h => h) (yieldsIf_load_mid (by rfl) 38 (.tmp 36) rfl G2 (p2 + 12) rfl y.v.cells _ (fun W hW => range_av (F0.out.below (BB.out.trans hW)).rg F.out.ok) Try.underlying38 rfl (size30 F.out.ok.v.tl)) S1.out ?_
            try simp only [Act.put, List.setIfInBounds_toArray, List.set_cons_zero, List.set_cons_succ]
            refine wpAnyH_ready (rs := [16]) (by kernel_rfl) (by simp) ?_
            refine AllReadyH.cons (o := { dst := some 38, op := Go.Op.call { callee := Go.Callee.value (Go.Operand.func 31), args := #[Go.Operand.tmp 32, Go.Operand.tmp 37], argTypes := #[38, 38] }, type := 38, pos := _, after := #[{ on := 10, ground := Go.Ground.data }, { on := 15, ground := Go.Ground.data }], guard := none }) rfl (fun K hK => ?_) AllReadyH.nil
            go_simp
            refine (refMore_is x.v y.v _ E.out.ok.v F.out.ok.v).mono ?_
            rintro e w3 ⟨rfl, b3⟩
            have S3 := Lib.hid (S1.out.trans (b3.mono HB.out))
            have O3 := Lib.hid (OO.out.drew.below b3)
            have H3 := Lib.hid (Nat.le_trans HB.out b3.size)
            clear b3
            go_wp2_with fail
            refine hK.out _ _ ?_ (fun _ => ?_)
            · exact S3.out
            clear hK K
            try simp only [Act.put, List.setIfInBounds_toArray, List.set_cons_zero, List.set_cons_succ]
            refine wpAnyH_take (i := 17) (oi := { dst := some 39, op := Go.Op.build 63 #[(0, Go.Operand.tmp 27), (1, Go.Operand.tmp 38)], type := 63, pos := _, after := #[{ on := 5, ground := Go.Ground.data }, { on := 16, ground := Go.Ground.data }], guard := none }) (v := .agg (⟨x.k, more x.v y.v⟩ : Am).cells.toArray) rfl (by kernel_rfl) (by kernel_rfl) (by kernel_rfl) (fun _ _ _ h => h) (Or.inl ⟨by rfl, fun W hW => exec_build 63 _ rfl [(0, .agg x.k.cells.toArray), (1, .agg (more x.v y.v).cells.toArray)] rfl _ (built46 x.k (more x.v y.v) E.out.ok.k.ml (more_ok E.out.ok.v F.out.ok.v).tl)⟩) S3.out ?_
            try simp only [Act.put, List.setIfInBounds_toArray, List.set_cons_zero, List.set_cons_succ]
            refine wpAnyH_ready (rs := [18]) (by kernel_rfl) (by simp) ?_
            refine ready_one46 (o := { dst := some 40, op := Go.Op.buildSlice 22 1 #[(0, Go.Operand.tmp 39)], type := 22, pos := _, after := #[{ on := 17, ground := Go.Ground.data }], guard := none }) rfl rfl _ rfl ⟨x.k, more x.v y.v⟩ rfl ⟨E.out.ok.k, more_ok E.out.ok.v F.out.ok.v⟩ (fun g4 w4 e4 N4 b4 => ?_) AllReadyH.nil
            refine ⟨S3.out.trans (b4.mono H3.out), ?_⟩
            try simp only [Act.put, List.setIfInBounds_toArray, List.set_cons_zero, List.set_cons_succ]
            refine wpAnyH_ready (rs := [19]) (by kernel_rfl) (by simp) ?_
            refine ready_app46 (o := { dst := some 41, op := Go.Op.call { callee := Go.Callee.builtin Go.Builtin.append, args := #[Go.Operand.tmp 22, Go.Operand.tmp 40], argTypes := #[22, 22] }, type := 22, pos := _, after := #[{ on := 0, ground := Go.Ground.data }, { on := 18, ground := Go.Ground.data }, { on := 16, ground := Go.Ground.chain }], guard := none }) rfl rfl _ _ rfl w2.heap.size _ out ⟨x.k, more x.v y.v⟩ g4 rfl rfl (O3.out.below b4) ⟨E.out.ok.k, more_ok E.out.ok.v F.out.ok.v⟩ N4 LL.out (Nat.le_trans H3.out b4.size) (fun D5 m5 c5 w5 e5 O5 b5 G5 => ?_) AllReadyH.nil
            refine ⟨(S3.out.trans (b4.mono H3.out)).trans b5, ?_⟩
            try simp only [Act.put, List.setIfInBounds_toArray, List.set_cons_zero, List.set_cons_succ]
            have S5 := Lib.hid ((S3.out.trans (b4.mono H3.out)).trans b5)
            have O5' := Lib.hid O5
            clear S3 O3 H3 N4 b4 O5 b5 G5
            refine wpAnyH_take (i := 20) (oi := { dst := some 5, op := Go.Op.assign (Go.Operand.tmp 41), type := 22, pos := _, after := #[{ on := 19, ground := Go.Ground.data }, { on := 19, ground := Go.Ground.chain }, { on := 0, ground := Go.Ground.phase }, { on := 1, ground := Go.Ground.phase }, { on := 2, ground := Go.Ground.phase }, { on := 3, ground := Go.Ground.phase }, { on := 4, ground := Go.Ground.phase }, { on := 5, ground := Go.Ground.phase }, { on := 6, ground := Go.Ground.phase }, { on := 7, ground := Go.Ground.phase }, { on := 8, ground := Go.Ground.phase }, { on := 9, ground := Go.Ground.phase }, { on := 10, ground := Go.Ground.phase }, { on := 11, ground := Go.Ground.phase }, { on := 12, ground := Go.Ground.phase }, { on := 13, ground := Go.Ground.phase }, { on := 14, ground := Go.Ground.phase }, { on := 15, ground := Go.Ground.phase }, { on := 16, ground := Go.Ground.phase }, { on := 17, ground := Go.Ground.phase }, { on := 18, ground := Go.Ground.phase }, { on := 19, ground := Go.Ground.phase }], guard := none }) (v := ?_) rfl (by kernel_rfl) (by kernel_rfl) (by kernel_rfl) (fun _ _ _ h => h) (Or.inl ⟨by rfl, ?_⟩) S5.out ?_
            rotate_left
            · intro W hW; (go_simp; try with_reducible rfl)
            try simp only [Act.put, List.setIfInBounds_toArray, List.set_cons_zero, List.set_cons_succ]
            refine wpAnyH_done (by kernel_rfl) ?_ _
            refine NoPanic.normal ?_
            go_wp2_with fail
            go_roundw
            case rel => exact ⟨i + 1, k + 1, _, by omega, by omega, by go_num, by go_num, O5'.out, IN.out, BB.out.trans S5.out⟩
            case measure => simp [intOf]; omega
      · obtain rfl : i = n1 := by omega
        have IN := Lib.hid (II.out.b (List.drop_of_length_le (by have := R1.out.len; omega)) U.out)
        go_wp2_with fail
        refine region_later (by kernel_rfl) (by kernel_rfl) ?_
        go_big_quiet_step (fail)
        go_big_quiet_step (fail)
        go_big_quiet_step (fail)
        go_big_quiet_step (fail)
        go_big_quiet_step (fail)
        go_big_quiet_step (fail)
        go_big_quiet_step (fail)
        go_big_quiet_step (fail)
        go_big_quiet_step (fail)
        go_big_quiet_step (fail)
        go_big_quiet_step (fail)
        go_big_quiet_step (fail)
        go_big_quiet_step (fail)
        go_big_quiet_step (fail)
        go_big_quiet_step (fail)
        go_big_quiet_step (fail)
        go_big_quiet_step (fail)
        go_big_quiet_step (fail)
        go_big_quiet_step (fail)
        go_big_quiet_step (fail)
        go_big_quiet_step (fail)
        go_big_quiet_step (fail)
        go_big_quiet_step (fail)
        go_big_quiet_step (fail)
        refine wpQuiet_nil ?_
        intro v3 hw3
        replace F := Lib.hid (F.out.below hw3)
        replace OO := Lib.hid (OO.out.below hw3)
        replace BB := Lib.hid (BB.out.trans (hw3.mono BB.out.size))
        clear hw3
        go_wp2_with fail
        refine region_later (by kernel_rfl) (by kernel_rfl) ?_
        go_big_quiet_step (fail)
        go_big_quiet_step (fail)
        go_big_quiet_step (fail)
        go_big_quiet_step (fail)
        go_big_quiet_step (fail)
        go_big_quiet_step (fail)
        go_big_quiet_step (fail)
        go_big_quiet_step (fail)
        go_big_quiet_step (fail)
        go_big_quiet_step (fail)
        go_big_quiet_step (fail)
        go_big_quiet_step (fail)
        go_big_quiet_step (fail)
        go_big_quiet_step (fail)
        go_big_quiet_step (fail)
        go_big_quiet_step (fail)
        go_big_quiet_step (fail)
        go_big_quiet_step (fail)
        refine wpQuiet_nil ?_
        intro v4 hw4
        replace F := Lib.hid (F.out.below hw4)
        replace OO := Lib.hid (OO.out.below hw4)
        replace BB := Lib.hid (BB.out.trans (hw4.mono BB.out.size))
        clear hw4
        have HB := Lib.hid BB.out.size
        go_wp2_with (first
          | go_skip
          | refine wpList_index rfl _ _ rfl A2 n2 c2 G2 p2 k y _ rfl rfl (by first | rfl | omega) F.out ?_
          | refine wpList_load_amx rfl _ rfl G2 p2 y rfl F.out.rg F.out.ok ?_
          | (refine wpList_one46 rfl _ rfl y rfl F.out.ok ?_; intro g6 w6 e6 N6 B6)
          | (refine wpList_app rfl _ _ rfl w2.heap.size _ out y g6 rfl rfl (OO.out.below B6.out) F.out.ok N6.out LL.out (Nat.le_trans HB.out B6.out.size) ?_; intro D7 m7 c7 w7 e7 O7 B7 G7))
        go_roundw
        case rel => exact ⟨i, k + 1, _, by omega, by omega, by go_num, by go_num, O7.out, IN.out, BB.out.trans ((B6.out.mono HB.out).trans B7.out)⟩
        case measure => simp [intOf]; omega
    · obtain rfl : k = n2 := by omega
      by_cases hii : i < n1
      · obtain ⟨G, p, hE⟩ := R1.out.elem i hii
        have E0 := Lib.hid hE
        have T := Lib.hid (drop_getD (l := X) (j := i) (by have := R1.out.len; omega))
        obtain ⟨x, hx⟩ : ∃ x, X.getD i azero = x := ⟨_, rfl⟩
        rw [hx] at E0 T
        clear hE hx
        have E := Lib.hid (E0.out.below BB.out)
        have IN := Lib.hid (II.out.a T.out (List.drop_of_length_le (by have := R2.out.len; omega)))
        go_wp2_with fail
        refine region_later (by kernel_rfl) (by kernel_rfl) ?_
        go_big_quiet_step (fail)
        go_big_quiet_step (fail)
        go_big_quiet_step (fail)
        go_big_quiet_step (fail)
        go_big_quiet_step (fail)
        go_big_quiet_step (fail)
        go_big_quiet_step (fail)
        go_big_quiet_step (fail)
        go_big_quiet_step (fail)
        go_big_quiet_step (fail)
        go_big_quiet_step (fail)
        go_big_quiet_step (fail)
        go_big_quiet_step (fail)
        go_big_quiet_step (fail)
        go_big_quiet_step (fail)
        go_big_quiet_step (fail)
        go_big_quiet_step (fail)
        go_big_quiet_step (fail)
        go_big_quiet_step (fail)
        go_big_quiet_step (fail)
        go_big_quiet_step (fail)
        go_big_quiet_step (fail)
        go_big_quiet_step (fail)
        go_big_quiet_step (fail)
        refine wpQuiet_nil ?_
        intro v3 hw3
        replace E := Lib.hid (E.out.below hw3)
        replace OO := Lib.hid (OO.out.below hw3)
        replace BB := Lib.hid (BB.out.trans (hw3.mono BB.out.size))
        clear hw3
        have HB := Lib.hid BB.out.size
        go_wp2_with (first
          | go_skip
          | refine wpList_index rfl _ _ rfl A1 n1 c1 G p i x _ rfl rfl (by first | rfl | omega) E.out ?_
          | refine wpList_load_amx rfl _ rfl G p x rfl E.out.rg E.out.ok ?_
          | (refine wpList_one46 rfl _ rfl x rfl E.out.ok ?_; intro g6 w6 e6 N6 B6)
          | (refine wpList_app rfl _ _ rfl w2.heap.size _ out x g6 rfl rfl (OO.out.below B6.out) E.out.ok N6.out LL.out (Nat.le_trans HB.out B6.out.size) ?_; intro D7 m7 c7 w7 e7 O7 B7 G7))
        go_roundw
        case rel => exact ⟨i + 1, k, _, by omega, by omega, by go_num, by go_num, O7.out, IN.out, BB.out.trans ((B6.out.mono HB.out).trans B7.out)⟩
        case measure => simp [intOf]; omega
      · obtain rfl : i = n1 := by omega
        have II := Lib.hid (show JI X Y X.length Y.length out by rw [R1.out.len, R2.out.len]; exact II.out)
        have HO := Lib.hid II.out.done
        go_wp2_with fail
        go_ret
        exact GivesR.own (by rw [← HJ.out, ← HO.out]; exact OO.out) (step_ B2.out BB.out)
end Go.Proofs.Ytgggjhbijnndhaa
