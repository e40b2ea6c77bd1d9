/- The contract of Items of the reference. Written by wip/tools/refi_r14.py. -/
import Derived.Test.YtdigbipfchgjmaaGreatRefT
import Derived.Test.YtdigbipfchgjmaaGreatSameT
import Derived.Test.YtdigbipfchgjmaaGreatItemsT
namespace Go.Proofs.YtdigbipfchgjmaaGreat
open Go.RowKit

theorem run_load_i {t : TypeId} {ik : IntKind} (hu : Tryz.prog.underlying t = some (.int ik)) (w : World) (G off : Nat) (d : Int) (h : w.cell? ⟨G, off, none⟩ = some (.int ik d)) : (Instr.loadAt t (.pointer (some ⟨G, off, none⟩))).run Tryz.prog w = .ok (.int ik d) w := by
  simp [Instr.loadAt, Instr.sureAddr, loadVar, isAgg, run_underlying hu, h]
theorem quiet_load_i {o : Oper} {a : Act} {W : World} {K : Act → Prop} {t : TypeId} {ik : IntKind} (hu : Tryz.prog.underlying t = some (.int ik)) (G off : Nat) (d : Int) (x : Operand) (ho : o.op = .load t x) (hx : a.eval x = .pointer (some ⟨G, off, none⟩)) (hat : W.cell? ⟨G, off, none⟩ = some (.int ik d))
    (hk : K (a.put o.dst (.int ik d))) : o.quiet Tryz.prog a (Cls W) K := by
  refine ⟨.int ik d, fun w hw => ?_, hk⟩
  obtain ⟨t, rfl⟩ := hw
  have h := run_load_i hu t.1 G off d ((t.2.cell (p := ⟨G, off, none⟩) (World.block_lt_of_cell? W _ hat)).trans hat)
  unfold Oper.quietAt
  have e : (execOp a.eval o).run Tryz.prog t.1 = .ok (.value (.int ik d)) t.1 := by
    simp [execOp, ho, hx, h]
  rw [e]
  exact ⟨rfl, rfl⟩
set_option maxRecDepth 100000 in
set_option maxHeartbeats 8000000 in
theorem refItems_is (A : Option Addr) (n cap : Nat) (a : List Am) (c : Int) (w : World) (h : RowV w A n cap a) (hn : n ≤ 600) : Calls Tryz.prog 15 #[.slice A n cap, .int .u16 c] w (GivesNs w (itemsT a c)) := by
  have IL := Lib.hid (items_last h.ok c)
  have H := Lib.hid h
  clear h
  go_enter Tryz.func15, Tryz.ntmps15
  go_wp2_with fail
  refine (refNorm_is A n cap a _ H.out (by omega)).mono ?_
  rintro e w1 ⟨⟨D, n1, cp, rfl, r1⟩, b1⟩
  have R1 := Lib.hid r1
  have B1 := Lib.hid b1
  obtain ⟨s, hs⟩ : ∃ s, norm a = s := ⟨_, rfl⟩
  have ln1 : n1 ≤ 600 := by have := norm_len a; have := r1.len; have := H.out.len; omega
  rw [hs] at R1 IL
  clear r1 b1 hs
  have hz := zero27
  go_wp2_with fail
  go_loopw [5, 6] (fun o i wr => ∃ j : Nat, j ≤ n1 ∧ i = .int .i64 j ∧ OwnG EN wr w1.heap.size o (nubL (pick (pth (pin c)) (s.take j))) ∧ Below w1.heap.size w1 wr) (fun _ i _ => n1 - (intOf i).toNat)
  case atStart => exact ⟨0, Nat.zero_le _, rfl, ownG_nil _ _, Below.refl _ _⟩
  case round =>
    obtain ⟨j, hj, rfl, ho, hb⟩ := hrel
    obtain ⟨Ao, co, rfl⟩ := ho.shape
    have OO := Lib.hid ho
    have BB := Lib.hid hb
    clear ho hb
    by_cases hlt : j < n1
    · obtain ⟨G, p0, hE⟩ := (R1.out.below BB.out).elem j hlt
      have E := Lib.hid hE
      have TK := Lib.hid (take_getD (l := s) (j := j) (by have := R1.out.len; omega))
      obtain ⟨x, hx⟩ : ∃ x, s.getD j azero = x := ⟨_, rfl⟩
      rw [hx] at E TK
      have hL6 : (nubL (pick (pth (pin c)) (s.take j))).length ≤ 600 := by
        have := nubL_len (pick (pth (pin c)) (s.take j))
        have := pick_len (pth (pin c)) (s.take j)
        have := List.length_take_le j s
        omega
      obtain ⟨L, hL⟩ : ∃ L, nubL (pick (pth (pin c)) (s.take j)) = L := ⟨_, rfl⟩
      have HL := Lib.hid hL
      rw [hL] at hL6 OO ⊢
      have DL := Lib.hid (show L.length ≤ 5000 by omega)
      have Z1 := Lib.hid (blk_alloc wr 48 kzero.cells)
      have XO := Lib.hid (show x.Ok from E.out.ok)
      have NO := Lib.hid (show NOk x.k.m from ⟨XO.out.k.ml, XO.out.k.mb⟩)
      have EK1 := Lib.hid (show wr.rangeAt G p0 x.k.cells from fun i v hv => E.out.rg i v (by rw [Am.cells, List.getElem?_append_left (List.getElem?_eq_some_iff.1 hv).1]; exact hv))
      clear hE hx hL
      by_cases h1 : x.k.s = 1
      · have b1 : (x.k.s == 1) = true := by simpa using h1
        by_cases h2 : x.k.c = c
        · have b2 : (x.k.c == c) = true := by simpa using h2
          by_cases h3 : x.v.n = 1
          · have b3 : (x.v.n == 1) = true := by simpa using h3
            have SF := Lib.hid (show sel (pth (pin c)) x = true by simp [sel, pth, pin, h1, h2, h3])
            by_cases h4 : L = []
            · have FF := Lib.hid (show lastF L x.k = L ++ [x.k.m] by unfold lastF; rw [if_pos (.inl h4)])
              have b4 : ((L.length : Int) == 0) = true := by rw [h4]; rfl
              clear h1 h2 h3 h4
              go_wp2_with (first
                | (refine wpList_index rfl _ _ rfl D n1 cp G p0 j x _ rfl rfl (by first | rfl | omega) E.out ?_)
                | (refine wpList_load_ky rfl _ rfl G p0 x.k rfl EK1.out XO.out.k.ml ?_)
                | (refine wpList_store_ky rfl _ _ rfl wr.heap.size kzero x.k rfl rfl Z1.out kzero_ok.ml XO.out.k.ml ?_; intro w3 N3 O3; have Q3 := Lib.hid (box_below O3.out); have E3 := Lib.hid (E.out.below Q3.out); have c1 := N3.out.cell (kc0 x.k); have c2 := N3.out.cell (kc1 x.k); have c3 := E3.out.rg 12 _ (ac12 XO.out)))
              simp only [Act.put]
              refine region_later (by kernel_rfl) (by kernel_rfl) ?_
              repeat (first
                | go_big_quiet_skip
                | (go_big_quiet_want; refine quiet_load_i Tryz.underlying5 wr.heap.size 0 x.k.s _ rfl rfl c1 ?_; go_simp; go_big_quiet_on)
                | (go_big_quiet_want; refine quiet_load_i Tryz.underlying23 wr.heap.size 1 x.k.c _ rfl rfl c2 ?_; go_simp; go_big_quiet_on)
                | (go_big_quiet_want; refine quiet_load_i Tryz.underlying50 G (p0 + 12) x.v.n _ rfl rfl c3 ?_; go_simp; go_big_quiet_on)
                | (go_big_quiet_want; refine quiet_index _ _ rfl D n1 cp G p0 j x _ rfl rfl (by first | rfl | omega) E3.out ?_; go_simp; go_big_quiet_on)
                | go_big_quiet_step (fail))
              refine wpQuiet_nil ?_
              intro w5 hw5
              have B5 := Lib.hid hw5
              clear hw5
              go_wp2_with (first
                | (refine wpList_load_nm rfl _ rfl wr.heap.size 2 x.k.m rfl (N3.out.below B5.out |>.knm XO.out.k.ml) XO.out.k.ml ?_)
                | (refine wpList_oneG LN rfl _ rfl x.k.m rfl NO.out ?_; intro g4 w4 e4 N4 Q4)
                | (refine wpList_appG LN rfl _ _ rfl w1.heap.size _ L x.k.m g4 rfl rfl (((OO.out.below Q3.out).below B5.out).below Q4.out) NO.out N4.out DL.out (Nat.le_trans BB.out.size (Nat.le_trans Q3.out.size (Nat.le_trans B5.out.size Q4.out.size))) ?_; intro D6 m6 c6 w6 e6 O6 Q6 G6))
              go_roundw
              case rel => exact ⟨j + 1, by omega, by go_num, by rw [TK.out, pick_snoc, SF.out, if_pos rfl, nubL_snoc, HL.out, FF.out]; exact O6.out, (((BB.out.trans (Q3.out.mono BB.out.size)).trans (B5.out.mono (Nat.le_trans BB.out.size Q3.out.size))).trans (Q4.out.mono (Nat.le_trans BB.out.size (Nat.le_trans Q3.out.size B5.out.size)))).trans Q6.out⟩
              case measure => simp [intOf]; omega
            · have hl0 : 0 < L.length := List.length_pos_iff.2 h4
              have b4 : ((L.length : Int) == 0) = false := by simpa using h4
              obtain ⟨Av, nv, cv, ev, rv⟩ := OO.out.rowG LN
              obtain ⟨rfl, rfl, rfl⟩ : Ao = Av ∧ L.length = nv ∧ co = cv := by
                injection ev with e1 e2 e3
                exact ⟨e1, e2, e3⟩
              obtain ⟨G2, p2, hY⟩ := rv.elem [] (L.length - 1) (by omega)
              have YY := Lib.hid hY
              obtain ⟨y, hy⟩ : ∃ y, L.getD (L.length - 1) [] = y := ⟨_, rfl⟩
              rw [hy] at YY
              clear rv hY
              by_cases h5 : y = x.k.m
              · have HE := Lib.hid (show (!decide (y = x.k.m)) = false by simp [h5])
                have FF := Lib.hid (show lastF L x.k = L by unfold lastF; rw [if_neg (by rintro (e | e); exact h4 e; rw [hy] at e; exact e h5)])
                clear h1 h2 h3 h4 h5 hy
                go_wp2_with (first
                  | (refine wpList_index rfl _ _ rfl D n1 cp G p0 j x _ rfl rfl (by first | rfl | omega) E.out ?_)
                  | (refine wpList_load_ky rfl _ rfl G p0 x.k rfl EK1.out XO.out.k.ml ?_)
                  | (refine wpList_store_ky rfl _ _ rfl wr.heap.size kzero x.k rfl rfl Z1.out kzero_ok.ml XO.out.k.ml ?_; intro w3 N3 O3; have Q3 := Lib.hid (box_below O3.out); have E3 := Lib.hid (E.out.below Q3.out); have c1 := N3.out.cell (kc0 x.k); have c2 := N3.out.cell (kc1 x.k); have c3 := E3.out.rg 12 _ (ac12 XO.out)))
                have Y3 := Lib.hid (YY.out.below Q3.out)
                simp only [Act.put]
                refine region_later (by kernel_rfl) (by kernel_rfl) ?_
                repeat (first
                  | go_big_quiet_skip
                  | (go_big_quiet_want; refine quiet_load_i Tryz.underlying5 wr.heap.size 0 x.k.s _ rfl rfl c1 ?_; go_simp; go_big_quiet_on)
                  | (go_big_quiet_want; refine quiet_load_i Tryz.underlying23 wr.heap.size 1 x.k.c _ rfl rfl c2 ?_; go_simp; go_big_quiet_on)
                  | (go_big_quiet_want; refine quiet_load_i Tryz.underlying50 G (p0 + 12) x.v.n _ rfl rfl c3 ?_; go_simp; go_big_quiet_on)
                  | (go_big_quiet_want; refine quiet_index _ _ rfl D n1 cp G p0 j x _ rfl rfl (by first | rfl | omega) E3.out ?_; go_simp; go_big_quiet_on)
                  | (go_big_quiet_want; refine quiet_indexG LN _ _ rfl Ao L.length co G2 p2 (L.length - 1) y _ rfl rfl (by omega) Y3.out ?_; go_simp; go_big_quiet_on)
                  | (go_big_quiet_want; refine quiet_load_nmx G2 p2 y _ rfl rfl Y3.out.rg Y3.out.blk Y3.out.ok.1 ?_; go_simp; go_big_quiet_on)
                  | (go_big_quiet_want; refine quiet_load_nmo wr.heap.size 2 x.k.m _ rfl rfl (N3.out.knm XO.out.k.ml) N3.out.lt XO.out.k.ml ?_; go_simp; go_big_quiet_on)
                  | (go_big_quiet_want; refine quiet_neq_nm _ _ _ rfl y x.k.m false rfl rfl Y3.out.ok.1 XO.out.k.ml HE.out ?_; go_simp; go_big_quiet_on)
                  | go_big_quiet_step (fail))
                refine wpQuiet_nil ?_
                intro w5 hw5
                have B5 := Lib.hid hw5
                clear hw5
                go_wp2_with fail
                go_roundw
                case rel => exact ⟨j + 1, by omega, by go_num, by rw [TK.out, pick_snoc, SF.out, if_pos rfl, nubL_snoc, HL.out, FF.out]; exact (OO.out.below Q3.out).below B5.out, (BB.out.trans (Q3.out.mono BB.out.size)).trans (B5.out.mono (Nat.le_trans BB.out.size Q3.out.size))⟩
                case measure => simp [intOf]; omega
              · have HE := Lib.hid (show (!decide (y = x.k.m)) = true by simp [h5])
                have FF := Lib.hid (show lastF L x.k = L ++ [x.k.m] by unfold lastF; rw [if_pos (.inr (by rw [hy]; exact h5))])
                clear h1 h2 h3 h4 h5 hy
                go_wp2_with (first
                  | (refine wpList_index rfl _ _ rfl D n1 cp G p0 j x _ rfl rfl (by first | rfl | omega) E.out ?_)
                  | (refine wpList_load_ky rfl _ rfl G p0 x.k rfl EK1.out XO.out.k.ml ?_)
                  | (refine wpList_store_ky rfl _ _ rfl wr.heap.size kzero x.k rfl rfl Z1.out kzero_ok.ml XO.out.k.ml ?_; intro w3 N3 O3; have Q3 := Lib.hid (box_below O3.out); have E3 := Lib.hid (E.out.below Q3.out); have c1 := N3.out.cell (kc0 x.k); have c2 := N3.out.cell (kc1 x.k); have c3 := E3.out.rg 12 _ (ac12 XO.out)))
                have Y3 := Lib.hid (YY.out.below Q3.out)
                simp only [Act.put]
                refine region_later (by kernel_rfl) (by kernel_rfl) ?_
                repeat (first
                  | go_big_quiet_skip
                  | (go_big_quiet_want; refine quiet_load_i Tryz.underlying5 wr.heap.size 0 x.k.s _ rfl rfl c1 ?_; go_simp; go_big_quiet_on)
                  | (go_big_quiet_want; refine quiet_load_i Tryz.underlying23 wr.heap.size 1 x.k.c _ rfl rfl c2 ?_; go_simp; go_big_quiet_on)
                  | (go_big_quiet_want; refine quiet_load_i Tryz.underlying50 G (p0 + 12) x.v.n _ rfl rfl c3 ?_; go_simp; go_big_quiet_on)
                  | (go_big_quiet_want; refine quiet_index _ _ rfl D n1 cp G p0 j x _ rfl rfl (by first | rfl | omega) E3.out ?_; go_simp; go_big_quiet_on)
                  | (go_big_quiet_want; refine quiet_indexG LN _ _ rfl Ao L.length co G2 p2 (L.length - 1) y _ rfl rfl (by omega) Y3.out ?_; go_simp; go_big_quiet_on)
                  | (go_big_quiet_want; refine quiet_load_nmx G2 p2 y _ rfl rfl Y3.out.rg Y3.out.blk Y3.out.ok.1 ?_; go_simp; go_big_quiet_on)
                  | (go_big_quiet_want; refine quiet_load_nmo wr.heap.size 2 x.k.m _ rfl rfl (N3.out.knm XO.out.k.ml) N3.out.lt XO.out.k.ml ?_; go_simp; go_big_quiet_on)
                  | (go_big_quiet_want; refine quiet_neq_nm _ _ _ rfl y x.k.m true rfl rfl Y3.out.ok.1 XO.out.k.ml HE.out ?_; go_simp; go_big_quiet_on)
                  | go_big_quiet_step (fail))
                refine wpQuiet_nil ?_
                intro w5 hw5
                have B5 := Lib.hid hw5
                clear hw5
                go_wp2_with (first
                  | (refine wpList_load_nm rfl _ rfl wr.heap.size 2 x.k.m rfl (N3.out.below B5.out |>.knm XO.out.k.ml) XO.out.k.ml ?_)
                  | (refine wpList_oneG LN rfl _ rfl x.k.m rfl NO.out ?_; intro g4 w4 e4 N4 Q4)
                  | (refine wpList_appG LN rfl _ _ rfl w1.heap.size _ L x.k.m g4 rfl rfl (((OO.out.below Q3.out).below B5.out).below Q4.out) NO.out N4.out DL.out (Nat.le_trans BB.out.size (Nat.le_trans Q3.out.size (Nat.le_trans B5.out.size Q4.out.size))) ?_; intro D6 m6 c6 w6 e6 O6 Q6 G6))
                go_roundw
                case rel => exact ⟨j + 1, by omega, by go_num, by rw [TK.out, pick_snoc, SF.out, if_pos rfl, nubL_snoc, HL.out, FF.out]; exact O6.out, (((BB.out.trans (Q3.out.mono BB.out.size)).trans (B5.out.mono (Nat.le_trans BB.out.size Q3.out.size))).trans (Q4.out.mono (Nat.le_trans BB.out.size (Nat.le_trans Q3.out.size B5.out.size)))).trans Q6.out⟩
                case measure => simp [intOf]; omega
          · have b3 : (x.v.n == 1) = false := by simpa using h3
            have SF := Lib.hid (show sel (pth (pin c)) x = false by simp [sel, pth, h3])
            clear h1 h2 h3
            go_wp2_with (first
              | (refine wpList_index rfl _ _ rfl D n1 cp G p0 j x _ rfl rfl (by first | rfl | omega) E.out ?_)
              | (refine wpList_load_ky rfl _ rfl G p0 x.k rfl EK1.out XO.out.k.ml ?_)
              | (refine wpList_store_ky rfl _ _ rfl wr.heap.size kzero x.k rfl rfl Z1.out kzero_ok.ml XO.out.k.ml ?_; intro w3 N3 O3; have Q3 := Lib.hid (box_below O3.out); have E3 := Lib.hid (E.out.below Q3.out); have c1 := N3.out.cell (kc0 x.k); have c2 := N3.out.cell (kc1 x.k); have c3 := E3.out.rg 12 _ (ac12 XO.out)))
            simp only [Act.put]
            refine region_later (by kernel_rfl) (by kernel_rfl) ?_
            repeat (first
              | go_big_quiet_skip
              | (go_big_quiet_want; refine quiet_load_i Tryz.underlying5 wr.heap.size 0 x.k.s _ rfl rfl c1 ?_; go_simp; go_big_quiet_on)
              | (go_big_quiet_want; refine quiet_load_i Tryz.underlying23 wr.heap.size 1 x.k.c _ rfl rfl c2 ?_; go_simp; go_big_quiet_on)
              | (go_big_quiet_want; refine quiet_load_i Tryz.underlying50 G (p0 + 12) x.v.n _ rfl rfl c3 ?_; go_simp; go_big_quiet_on)
              | (go_big_quiet_want; refine quiet_index _ _ rfl D n1 cp G p0 j x _ rfl rfl (by first | rfl | omega) E3.out ?_; go_simp; go_big_quiet_on)
              | go_big_quiet_step (fail))
            refine wpQuiet_nil ?_
            intro w5 hw5
            have B5 := Lib.hid hw5
            clear hw5
            go_wp2_with fail
            go_roundw
            case rel => exact ⟨j + 1, by omega, by go_num, by rw [TK.out, pick_snoc, SF.out, if_neg (by decide), HL.out]; exact (OO.out.below Q3.out).below B5.out, (BB.out.trans (Q3.out.mono BB.out.size)).trans (B5.out.mono (Nat.le_trans BB.out.size Q3.out.size))⟩
            case measure => simp [intOf]; omega
        · have b2 : (x.k.c == c) = false := by simpa using h2
          have SF := Lib.hid (show sel (pth (pin c)) x = false by simp [sel, pth, pin, h2])
          clear h1 h2
          go_wp2_with (first
            | (refine wpList_index rfl _ _ rfl D n1 cp G p0 j x _ rfl rfl (by first | rfl | omega) E.out ?_)
            | (refine wpList_load_ky rfl _ rfl G p0 x.k rfl EK1.out XO.out.k.ml ?_)
            | (refine wpList_store_ky rfl _ _ rfl wr.heap.size kzero x.k rfl rfl Z1.out kzero_ok.ml XO.out.k.ml ?_; intro w3 N3 O3; have Q3 := Lib.hid (box_below O3.out); have E3 := Lib.hid (E.out.below Q3.out); have c1 := N3.out.cell (kc0 x.k); have c2 := N3.out.cell (kc1 x.k); have c3 := E3.out.rg 12 _ (ac12 XO.out)))
          simp only [Act.put]
          refine region_later (by kernel_rfl) (by kernel_rfl) ?_
          repeat (first
            | go_big_quiet_skip
            | (go_big_quiet_want; refine quiet_load_i Tryz.underlying5 wr.heap.size 0 x.k.s _ rfl rfl c1 ?_; go_simp; go_big_quiet_on)
            | (go_big_quiet_want; refine quiet_load_i Tryz.underlying23 wr.heap.size 1 x.k.c _ rfl rfl c2 ?_; go_simp; go_big_quiet_on)
            | (go_big_quiet_want; refine quiet_load_i Tryz.underlying50 G (p0 + 12) x.v.n _ rfl rfl c3 ?_; go_simp; go_big_quiet_on)
            | (go_big_quiet_want; refine quiet_index _ _ rfl D n1 cp G p0 j x _ rfl rfl (by first | rfl | omega) E3.out ?_; go_simp; go_big_quiet_on)
            | go_big_quiet_step (fail))
          refine wpQuiet_nil ?_
          intro w5 hw5
          have B5 := Lib.hid hw5
          clear hw5
          go_wp2_with fail
          go_roundw
          case rel => exact ⟨j + 1, by omega, by go_num, by rw [TK.out, pick_snoc, SF.out, if_neg (by decide), HL.out]; exact (OO.out.below Q3.out).below B5.out, (BB.out.trans (Q3.out.mono BB.out.size)).trans (B5.out.mono (Nat.le_trans BB.out.size Q3.out.size))⟩
          case measure => simp [intOf]; omega
      · have b1 : (x.k.s == 1) = false := by simpa using h1
        have SF := Lib.hid (show sel (pth (pin c)) x = false by simp [sel, h1])
        clear h1
        go_wp2_with (first
          | (refine wpList_index rfl _ _ rfl D n1 cp G p0 j x _ rfl rfl (by first | rfl | omega) E.out ?_)
          | (refine wpList_load_ky rfl _ rfl G p0 x.k rfl EK1.out XO.out.k.ml ?_)
          | (refine wpList_store_ky rfl _ _ rfl wr.heap.size kzero x.k rfl rfl Z1.out kzero_ok.ml XO.out.k.ml ?_; intro w3 N3 O3; have Q3 := Lib.hid (box_below O3.out); have E3 := Lib.hid (E.out.below Q3.out); have c1 := N3.out.cell (kc0 x.k); have c2 := N3.out.cell (kc1 x.k); have c3 := E3.out.rg 12 _ (ac12 XO.out)))
        simp only [Act.put]
        refine region_later (by kernel_rfl) (by kernel_rfl) ?_
        repeat (first
          | go_big_quiet_skip
          | (go_big_quiet_want; refine quiet_load_i Tryz.underlying5 wr.heap.size 0 x.k.s _ rfl rfl c1 ?_; go_simp; go_big_quiet_on)
          | (go_big_quiet_want; refine quiet_load_i Tryz.underlying23 wr.heap.size 1 x.k.c _ rfl rfl c2 ?_; go_simp; go_big_quiet_on)
          | (go_big_quiet_want; refine quiet_load_i Tryz.underlying50 G (p0 + 12) x.v.n _ rfl rfl c3 ?_; go_simp; go_big_quiet_on)
          | (go_big_quiet_want; refine quiet_index _ _ rfl D n1 cp G p0 j x _ rfl rfl (by first | rfl | omega) E3.out ?_; go_simp; go_big_quiet_on)
          | go_big_quiet_step (fail))
        refine wpQuiet_nil ?_
        intro w5 hw5
        have B5 := Lib.hid hw5
        clear hw5
        go_wp2_with fail
        go_roundw
        case rel => exact ⟨j + 1, by omega, by go_num, by rw [TK.out, pick_snoc, SF.out, if_neg (by decide), HL.out]; exact (OO.out.below Q3.out).below B5.out, (BB.out.trans (Q3.out.mono BB.out.size)).trans (B5.out.mono (Nat.le_trans BB.out.size Q3.out.size))⟩
        case measure => simp [intOf]; omega
    · obtain rfl : n1 = j := by omega
      have HS := Lib.hid (show s.take n1 = s from List.take_of_length_le (by have := R1.out.len; omega))
      go_wp2_with fail
      go_ret
      have e : itemsT a c = nubL (pick (pth (pin c)) (s.take n1)) := by rw [HS.out]; exact IL.out
      rw [e]
      exact ⟨⟨_, rfl, OO.out.down B1.out.size⟩, step_ B1.out BB.out⟩
end Go.Proofs.YtdigbipfchgjmaaGreat
