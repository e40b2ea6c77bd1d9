/- The contract of Items of the reference. Written by wip/tools/refi_r14.py. Totals of halves of the reference: Half and Total. -/
import Derived.Test.YtijfbhdbfplghaaGreatH44
import Derived.Test.YtijfbhdbfplghaaGreatH28
import Derived.Test.YtijfbhdbfplghaaGreatH41
import Derived.Test.YtijfbhdbfplghaaGreatH26
import Derived.Test.YtijfbhdbfplghaaGreatH43
namespace Go.Proofs.YtijfbhdbfplghaaGreat
open Go.RowKit
set_option maxRecDepth 100000 in
set_option maxHeartbeats 8000000 in
theorem refItems_is (A : Option Addr) (n cap : Nat) (a : List Am) (c : Int) (w : World) (h : RowV w A n cap a) (hn : n ≤ 600) : Calls Tryz.prog 32 #[.slice A n cap, .int .u16 c] w (GivesNs w (itemsT a c)) := by
  have IL := Lib.hid (items_last h.ok c)
  have H := Lib.hid h
  clear h
  go_enter Tryz.func32, Tryz.ntmps32
  go_wp2_with fail
  refine (refNorm_is A n cap a _ H.out (by omega)).mono ?_
  rintro e w1 ⟨⟨D, n1, cp, rfl, r1⟩, b1⟩
  have R1 := Lib.hid r1
  have B1 := Lib.hid b1
  obtain ⟨s, hs⟩ : ∃ s, norm a = s := ⟨_, rfl⟩
  have ln1 : n1 ≤ 600 := by have := norm_len a; have := r1.len; have := H.out.len; omega
  rw [hs] at R1 IL
  clear r1 b1 hs
  have hz := zero27
  go_wp2_with fail
  go_loopw [5, 6] (fun o i wr => ∃ j : Nat, j ≤ n1 ∧ i = .int .i64 j ∧ OwnG EN wr w1.heap.size o (nubL (pick (pth (pin c)) (s.take j))) ∧ Below w1.heap.size w1 wr) (fun _ i _ => n1 - (intOf i).toNat)
  case atStart => exact ⟨0, Nat.zero_le _, rfl, ownG_nil _ _, Below.refl _ _⟩
  case round =>
    obtain ⟨j, hj, rfl, ho, hb⟩ := hrel
    obtain ⟨Ao, co, rfl⟩ := ho.shape
    have OO := Lib.hid ho
    have BB := Lib.hid hb
    clear ho hb
    by_cases hlt : j < n1
    · obtain ⟨G, p0, hE⟩ := (R1.out.below BB.out).elem j hlt
      have E := Lib.hid hE
      have TK := Lib.hid (take_getD (l := s) (j := j) (by have := R1.out.len; omega))
      obtain ⟨x, hx⟩ : ∃ x, s.getD j azero = x := ⟨_, rfl⟩
      rw [hx] at E TK
      have hL6 : (nubL (pick (pth (pin c)) (s.take j))).length ≤ 600 := by
        have := nubL_len (pick (pth (pin c)) (s.take j))
        have := pick_len (pth (pin c)) (s.take j)
        have := List.length_take_le j s
        omega
      obtain ⟨L, hL⟩ : ∃ L, nubL (pick (pth (pin c)) (s.take j)) = L := ⟨_, rfl⟩
      have HL := Lib.hid hL
      rw [hL] at hL6 OO ⊢
      have DL := Lib.hid (show L.length ≤ 5000 by omega)
      have Z1 := Lib.hid (blk_alloc wr 53 kzero.cells)
      have XO := Lib.hid (show x.Ok from E.out.ok)
      have NO := Lib.hid (show NOk x.k.m from ⟨XO.out.k.ml, XO.out.k.mb⟩)
      have EK1 := Lib.hid (show wr.rangeAt G p0 x.k.cells from fun i v hv => E.out.rg i v (by rw [Am.cells, List.getElem?_append_left (List.getElem?_eq_some_iff.1 hv).1]; exact hv))
      clear hE hx hL
      by_cases h1 : x.k.s = 1
      · have b1 : (x.k.s == 1) = true := by simpa using h1
        by_cases h2 : x.k.c = c
        · have b2 : (x.k.c == c) = true := by simpa using h2
          by_cases h3 : x.v.n = 1
          · have b3 : (x.v.n == 1) = true := by simpa using h3
            have SF := Lib.hid (show sel (pth (pin c)) x = true by simp [sel, pth, pin, h1, h2, h3])
            by_cases h4 : L = []
            · have FF := Lib.hid (show lastF L x.k = L ++ [x.k.m] by unfold lastF; rw [if_pos (.inl h4)])
              have b4 : ((L.length : Int) == 0) = true := by rw [h4]; rfl
              clear h1 h2 h3 h4
              go_wp2_with (first
                | (refine wpList_index rfl _ _ rfl D n1 cp G p0 j x _ rfl rfl (by first | rfl | omega) E.out ?_)
                | (refine wpList_load_ky rfl _ rfl G p0 x.k rfl EK1.out XO.out.k.ml ?_)
                | (refine wpList_store_ky rfl _ _ rfl wr.heap.size kzero x.k rfl rfl Z1.out kzero_ok.ml XO.out.k.ml ?_; intro w3 N3 O3; have Q3 := Lib.hid (box_below O3.out); have E3 := Lib.hid (E.out.below Q3.out); have c1 := N3.out.cell (kc0 x.k); have c2 := N3.out.cell (kc1 x.k); have c3 := E3.out.rg 12 _ (ac12 XO.out)))
              simp only [Act.put]
              refine region_later (by kernel_rfl) (by kernel_rfl) ?_
              repeat (first
                | go_big_quiet_skip
                | (go_big_quiet_want; refine quiet_load_i Tryz.underlying5 wr.heap.size 0 x.k.s _ rfl rfl c1 ?_; go_simp; go_big_quiet_on)
                | (go_big_quiet_want; refine quiet_load_i Tryz.underlying23 wr.heap.size 1 x.k.c _ rfl rfl c2 ?_; go_simp; go_big_quiet_on)
                | (go_big_quiet_want; refine quiet_load_i Tryz.underlying54 G (p0 + 12) x.v.n _ rfl rfl c3 ?_; go_simp; go_big_quiet_on)
                | (go_big_quiet_want; refine quiet_index _ _ rfl D n1 cp G p0 j x _ rfl rfl (by first | rfl | omega) E3.out ?_; go_simp; go_big_quiet_on)
                | go_big_quiet_step (fail))
              refine wpQuiet_nil ?_
              intro w5 hw5
              have B5 := Lib.hid hw5
              clear hw5
              go_wp2_with (first
                | (refine wpList_load_nm rfl _ rfl wr.heap.size 2 x.k.m rfl (N3.out.below B5.out |>.knm XO.out.k.ml) XO.out.k.ml ?_)
                | (refine wpList_oneG LN rfl _ rfl x.k.m rfl NO.out ?_; intro g4 w4 e4 N4 Q4)
                | (refine wpList_appG LN rfl _ _ rfl w1.heap.size _ L x.k.m g4 rfl rfl (((OO.out.below Q3.out).below B5.out).below Q4.out) NO.out N4.out DL.out (Nat.le_trans BB.out.size (Nat.le_trans Q3.out.size (Nat.le_trans B5.out.size Q4.out.size))) ?_; intro D6 m6 c6 w6 e6 O6 Q6 G6))
              go_roundw
              case rel => exact ⟨j + 1, by omega, by go_num, by rw [TK.out, pick_snoc, SF.out, if_pos rfl, nubL_snoc, HL.out, FF.out]; exact O6.out, (((BB.out.trans (Q3.out.mono BB.out.size)).trans (B5.out.mono (Nat.le_trans BB.out.size Q3.out.size))).trans (Q4.out.mono (Nat.le_trans BB.out.size (Nat.le_trans Q3.out.size B5.out.size)))).trans Q6.out⟩
              case measure => simp [intOf]; omega
            · have hl0 : 0 < L.length := List.length_pos_iff.2 h4
              have b4 : ((L.length : Int) == 0) = false := by simpa using h4
              obtain ⟨Av, nv, cv, ev, rv⟩ := OO.out.rowG LN
              obtain ⟨rfl, rfl, rfl⟩ : Ao = Av ∧ L.length = nv ∧ co = cv := by
                injection ev with e1 e2 e3
                exact ⟨e1, e2, e3⟩
              obtain ⟨G2, p2, hY⟩ := rv.elem [] (L.length - 1) (by omega)
              have YY := Lib.hid hY
              obtain ⟨y, hy⟩ : ∃ y, L.getD (L.length - 1) [] = y := ⟨_, rfl⟩
              rw [hy] at YY
              clear rv hY
              by_cases h5 : y = x.k.m
              · have HE := Lib.hid (show (!decide (y = x.k.m)) = false by simp [h5])
                have FF := Lib.hid (show lastF L x.k = L by unfold lastF; rw [if_neg (by rintro (e | e); exact h4 e; rw [hy] at e; exact e h5)])
                clear h1 h2 h3 h4 h5 hy
                go_wp2_with (first
                  | (refine wpList_index rfl _ _ rfl D n1 cp G p0 j x _ rfl rfl (by first | rfl | omega) E.out ?_)
                  | (refine wpList_load_ky rfl _ rfl G p0 x.k rfl EK1.out XO.out.k.ml ?_)
                  | (refine wpList_store_ky rfl _ _ rfl wr.heap.size kzero x.k rfl rfl Z1.out kzero_ok.ml XO.out.k.ml ?_; intro w3 N3 O3; have Q3 := Lib.hid (box_below O3.out); have E3 := Lib.hid (E.out.below Q3.out); have c1 := N3.out.cell (kc0 x.k); have c2 := N3.out.cell (kc1 x.k); have c3 := E3.out.rg 12 _ (ac12 XO.out)))
                have Y3 := Lib.hid (YY.out.below Q3.out)
                simp only [Act.put]
                refine region_later (by kernel_rfl) (by kernel_rfl) ?_
                repeat (first
                  | go_big_quiet_skip
                  | (go_big_quiet_want; refine quiet_load_i Tryz.underlying5 wr.heap.size 0 x.k.s _ rfl rfl c1 ?_; go_simp; go_big_quiet_on)
                  | (go_big_quiet_want; refine quiet_load_i Tryz.underlying23 wr.heap.size 1 x.k.c _ rfl rfl c2 ?_; go_simp; go_big_quiet_on)
                  | (go_big_quiet_want; refine quiet_load_i Tryz.underlying54 G (p0 + 12) x.v.n _ rfl rfl c3 ?_; go_simp; go_big_quiet_on)
                  | (go_big_quiet_want; refine quiet_index _ _ rfl D n1 cp G p0 j x _ rfl rfl (by first | rfl | omega) E3.out ?_; go_simp; go_big_quiet_on)
                  | (go_big_quiet_want; refine quiet_indexG LN _ _ rfl Ao L.length co G2 p2 (L.length - 1) y _ rfl rfl (by omega) Y3.out ?_; go_simp; go_big_quiet_on)
                  | (go_big_quiet_want; refine quiet_load_nmx G2 p2 y _ rfl rfl Y3.out.rg Y3.out.blk Y3.out.ok.1 ?_; go_simp; go_big_quiet_on)
                  | (go_big_quiet_want; refine quiet_load_nmo wr.heap.size 2 x.k.m _ rfl rfl (N3.out.knm XO.out.k.ml) N3.out.lt XO.out.k.ml ?_; go_simp; go_big_quiet_on)
                  | (go_big_quiet_want; refine quiet_neq_nm _ _ _ rfl y x.k.m false rfl rfl Y3.out.ok.1 XO.out.k.ml HE.out ?_; go_simp; go_big_quiet_on)
                  | go_big_quiet_step (fail))
                refine wpQuiet_nil ?_
                intro w5 hw5
                have B5 := Lib.hid hw5
                clear hw5
                go_wp2_with fail
                go_roundw
                case rel => exact ⟨j + 1, by omega, by go_num, by rw [TK.out, pick_snoc, SF.out, if_pos rfl, nubL_snoc, HL.out, FF.out]; exact (OO.out.below Q3.out).below B5.out, (BB.out.trans (Q3.out.mono BB.out.size)).trans (B5.out.mono (Nat.le_trans BB.out.size Q3.out.size))⟩
                case measure => simp [intOf]; omega
              · have HE := Lib.hid (show (!decide (y = x.k.m)) = true by simp [h5])
                have FF := Lib.hid (show lastF L x.k = L ++ [x.k.m] by unfold lastF; rw [if_pos (.inr (by rw [hy]; exact h5))])
                clear h1 h2 h3 h4 h5 hy
                go_wp2_with (first
                  | (refine wpList_index rfl _ _ rfl D n1 cp G p0 j x _ rfl rfl (by first | rfl | omega) E.out ?_)
                  | (refine wpList_load_ky rfl _ rfl G p0 x.k rfl EK1.out XO.out.k.ml ?_)
                  | (refine wpList_store_ky rfl _ _ rfl wr.heap.size kzero x.k rfl rfl Z1.out kzero_ok.ml XO.out.k.ml ?_; intro w3 N3 O3; have Q3 := Lib.hid (box_below O3.out); have E3 := Lib.hid (E.out.below Q3.out); have c1 := N3.out.cell (kc0 x.k); have c2 := N3.out.cell (kc1 x.k); have c3 := E3.out.rg 12 _ (ac12 XO.out)))
                have Y3 := Lib.hid (YY.out.below Q3.out)
                simp only [Act.put]
                refine region_later (by kernel_rfl) (by kernel_rfl) ?_
                repeat (first
                  | go_big_quiet_skip
                  | (go_big_quiet_want; refine quiet_load_i Tryz.underlying5 wr.heap.size 0 x.k.s _ rfl rfl c1 ?_; go_simp; go_big_quiet_on)
                  | (go_big_quiet_want; refine quiet_load_i Tryz.underlying23 wr.heap.size 1 x.k.c _ rfl rfl c2 ?_; go_simp; go_big_quiet_on)
                  | (go_big_quiet_want; refine quiet_load_i Tryz.underlying54 G (p0 + 12) x.v.n _ rfl rfl c3 ?_; go_simp; go_big_quiet_on)
                  | (go_big_quiet_want; refine quiet_index _ _ rfl D n1 cp G p0 j x _ rfl rfl (by first | rfl | omega) E3.out ?_; go_simp; go_big_quiet_on)
                  | (go_big_quiet_want; refine quiet_indexG LN _ _ rfl Ao L.length co G2 p2 (L.length - 1) y _ rfl rfl (by omega) Y3.out ?_; go_simp; go_big_quiet_on)
                  | (go_big_quiet_want; refine quiet_load_nmx G2 p2 y _ rfl rfl Y3.out.rg Y3.out.blk Y3.out.ok.1 ?_; go_simp; go_big_quiet_on)
                  | (go_big_quiet_want; refine quiet_load_nmo wr.heap.size 2 x.k.m _ rfl rfl (N3.out.knm XO.out.k.ml) N3.out.lt XO.out.k.ml ?_; go_simp; go_big_quiet_on)
                  | (go_big_quiet_want; refine quiet_neq_nm _ _ _ rfl y x.k.m true rfl rfl Y3.out.ok.1 XO.out.k.ml HE.out ?_; go_simp; go_big_quiet_on)
                  | go_big_quiet_step (fail))
                refine wpQuiet_nil ?_
                intro w5 hw5
                have B5 := Lib.hid hw5
                clear hw5
                go_wp2_with (first
                  | (refine wpList_load_nm rfl _ rfl wr.heap.size 2 x.k.m rfl (N3.out.below B5.out |>.knm XO.out.k.ml) XO.out.k.ml ?_)
                  | (refine wpList_oneG LN rfl _ rfl x.k.m rfl NO.out ?_; intro g4 w4 e4 N4 Q4)
                  | (refine wpList_appG LN rfl _ _ rfl w1.heap.size _ L x.k.m g4 rfl rfl (((OO.out.below Q3.out).below B5.out).below Q4.out) NO.out N4.out DL.out (Nat.le_trans BB.out.size (Nat.le_trans Q3.out.size (Nat.le_trans B5.out.size Q4.out.size))) ?_; intro D6 m6 c6 w6 e6 O6 Q6 G6))
                go_roundw
                case rel => exact ⟨j + 1, by omega, by go_num, by rw [TK.out, pick_snoc, SF.out, if_pos rfl, nubL_snoc, HL.out, FF.out]; exact O6.out, (((BB.out.trans (Q3.out.mono BB.out.size)).trans (B5.out.mono (Nat.le_trans BB.out.size Q3.out.size))).trans (Q4.out.mono (Nat.le_trans BB.out.size (Nat.le_trans Q3.out.size B5.out.size)))).trans Q6.out⟩
                case measure => simp [intOf]; omega
          · have b3 : (x.v.n == 1) = false := by simpa using h3
            have SF := Lib.hid (show sel (pth (pin c)) x = false by simp [sel, pth, h3])
            clear h1 h2 h3
            go_wp2_with (first
              | (refine wpList_index rfl _ _ rfl D n1 cp G p0 j x _ rfl rfl (by first | rfl | omega) E.out ?_)
              | (refine wpList_load_ky rfl _ rfl G p0 x.k rfl EK1.out XO.out.k.ml ?_)
              | (refine wpList_store_ky rfl _ _ rfl wr.heap.size kzero x.k rfl rfl Z1.out kzero_ok.ml XO.out.k.ml ?_; intro w3 N3 O3; have Q3 := Lib.hid (box_below O3.out); have E3 := Lib.hid (E.out.below Q3.out); have c1 := N3.out.cell (kc0 x.k); have c2 := N3.out.cell (kc1 x.k); have c3 := E3.out.rg 12 _ (ac12 XO.out)))
            simp only [Act.put]
            refine region_later (by kernel_rfl) (by kernel_rfl) ?_
            repeat (first
              | go_big_quiet_skip
              | (go_big_quiet_want; refine quiet_load_i Tryz.underlying5 wr.heap.size 0 x.k.s _ rfl rfl c1 ?_; go_simp; go_big_quiet_on)
              | (go_big_quiet_want; refine quiet_load_i Tryz.underlying23 wr.heap.size 1 x.k.c _ rfl rfl c2 ?_; go_simp; go_big_quiet_on)
              | (go_big_quiet_want; refine quiet_load_i Tryz.underlying54 G (p0 + 12) x.v.n _ rfl rfl c3 ?_; go_simp; go_big_quiet_on)
              | (go_big_quiet_want; refine quiet_index _ _ rfl D n1 cp G p0 j x _ rfl rfl (by first | rfl | omega) E3.out ?_; go_simp; go_big_quiet_on)
              | go_big_quiet_step (fail))
            refine wpQuiet_nil ?_
            intro w5 hw5
            have B5 := Lib.hid hw5
            clear hw5
            go_wp2_with fail
            go_roundw
            case rel => exact ⟨j + 1, by omega, by go_num, by rw [TK.out, pick_snoc, SF.out, if_neg (by decide), HL.out]; exact (OO.out.below Q3.out).below B5.out, (BB.out.trans (Q3.out.mono BB.out.size)).trans (B5.out.mono (Nat.le_trans BB.out.size Q3.out.size))⟩
            case measure => simp [intOf]; omega
        · have b2 : (x.k.c == c) = false := by simpa using h2
          have SF := Lib.hid (show sel (pth (pin c)) x = false by simp [sel, pth, pin, h2])
          clear h1 h2
          go_wp2_with (first
            | (refine wpList_index rfl _ _ rfl D n1 cp G p0 j x _ rfl rfl (by first | rfl | omega) E.out ?_)
            | (refine wpList_load_ky rfl _ rfl G p0 x.k rfl EK1.out XO.out.k.ml ?_)
            | (refine wpList_store_ky rfl _ _ rfl wr.heap.size kzero x.k rfl rfl Z1.out kzero_ok.ml XO.out.k.ml ?_; intro w3 N3 O3; have Q3 := Lib.hid (box_below O3.out); have E3 := Lib.hid (E.out.below Q3.out); have c1 := N3.out.cell (kc0 x.k); have c2 := N3.out.cell (kc1 x.k); have c3 := E3.out.rg 12 _ (ac12 XO.out)))
          simp only [Act.put]
          refine region_later (by kernel_rfl) (by kernel_rfl) ?_
          repeat (first
            | go_big_quiet_skip
            | (go_big_quiet_want; refine quiet_load_i Tryz.underlying5 wr.heap.size 0 x.k.s _ rfl rfl c1 ?_; go_simp; go_big_quiet_on)
            | (go_big_quiet_want; refine quiet_load_i Tryz.underlying23 wr.heap.size 1 x.k.c _ rfl rfl c2 ?_; go_simp; go_big_quiet_on)
            | (go_big_quiet_want; refine quiet_load_i Tryz.underlying54 G (p0 + 12) x.v.n _ rfl rfl c3 ?_; go_simp; go_big_quiet_on)
            | (go_big_quiet_want; refine quiet_index _ _ rfl D n1 cp G p0 j x _ rfl rfl (by first | rfl | omega) E3.out ?_; go_simp; go_big_quiet_on)
            | go_big_quiet_step (fail))
          refine wpQuiet_nil ?_
          intro w5 hw5
          have B5 := Lib.hid hw5
          clear hw5
          go_wp2_with fail
          go_roundw
          case rel => exact ⟨j + 1, by omega, by go_num, by rw [TK.out, pick_snoc, SF.out, if_neg (by decide), HL.out]; exact (OO.out.below Q3.out).below B5.out, (BB.out.trans (Q3.out.mono BB.out.size)).trans (B5.out.mono (Nat.le_trans BB.out.size Q3.out.size))⟩
          case measure => simp [intOf]; omega
      · have b1 : (x.k.s == 1) = false := by simpa using h1
        have SF := Lib.hid (show sel (pth (pin c)) x = false by simp [sel, h1])
        clear h1
        go_wp2_with (first
          | (refine wpList_index rfl _ _ rfl D n1 cp G p0 j x _ rfl rfl (by first | rfl | omega) E.out ?_)
          | (refine wpList_load_ky rfl _ rfl G p0 x.k rfl EK1.out XO.out.k.ml ?_)
          | (refine wpList_store_ky rfl _ _ rfl wr.heap.size kzero x.k rfl rfl Z1.out kzero_ok.ml XO.out.k.ml ?_; intro w3 N3 O3; have Q3 := Lib.hid (box_below O3.out); have E3 := Lib.hid (E.out.below Q3.out); have c1 := N3.out.cell (kc0 x.k); have c2 := N3.out.cell (kc1 x.k); have c3 := E3.out.rg 12 _ (ac12 XO.out)))
        simp only [Act.put]
        refine region_later (by kernel_rfl) (by kernel_rfl) ?_
        repeat (first
          | go_big_quiet_skip
          | (go_big_quiet_want; refine quiet_load_i Tryz.underlying5 wr.heap.size 0 x.k.s _ rfl rfl c1 ?_; go_simp; go_big_quiet_on)
          | (go_big_quiet_want; refine quiet_load_i Tryz.underlying23 wr.heap.size 1 x.k.c _ rfl rfl c2 ?_; go_simp; go_big_quiet_on)
          | (go_big_quiet_want; refine quiet_load_i Tryz.underlying54 G (p0 + 12) x.v.n _ rfl rfl c3 ?_; go_simp; go_big_quiet_on)
          | (go_big_quiet_want; refine quiet_index _ _ rfl D n1 cp G p0 j x _ rfl rfl (by first | rfl | omega) E3.out ?_; go_simp; go_big_quiet_on)
          | go_big_quiet_step (fail))
        refine wpQuiet_nil ?_
        intro w5 hw5
        have B5 := Lib.hid hw5
        clear hw5
        go_wp2_with fail
        go_roundw
        case rel => exact ⟨j + 1, by omega, by go_num, by rw [TK.out, pick_snoc, SF.out, if_neg (by decide), HL.out]; exact (OO.out.below Q3.out).below B5.out, (BB.out.trans (Q3.out.mono BB.out.size)).trans (B5.out.mono (Nat.le_trans BB.out.size Q3.out.size))⟩
        case measure => simp [intOf]; omega
    · obtain rfl : n1 = j := by omega
      have HS := Lib.hid (show s.take n1 = s from List.take_of_length_le (by have := R1.out.len; omega))
      go_wp2_with fail
      go_ret
      have e : itemsT a c = nubL (pick (pth (pin c)) (s.take n1)) := by rw [HS.out]; exact IL.out
      rw [e]
      exact ⟨⟨_, rfl, OO.out.down B1.out.size⟩, step_ B1.out BB.out⟩
end Go.Proofs.YtijfbhdbfplghaaGreat
namespace Go.Proofs.YtijfbhdbfplghaaGreat
open Go.RowKit
attribute [local go_sem] Oper.semAt_some
set_option maxRecDepth 100000 in
theorem refHalf_is (A : Option Addr) (n cap : Nat) (a : List Am) (k : Ky) (x : Int) (w : World) (h : RowV w A n cap a) (hk : k.Ok) (hl : n ≤ 1000) (hs : k.s = 2 ∨ k.s = 3) (hx : Hid (hn (gt a) k = x)) : Calls Tryz.prog 55 #[.slice A n cap, .agg k.cells.toArray] w fun e w' => e = .returned (.int .u64 x) ∧ Below w.heap.size w w' := by
  have K0 := Lib.hid (blk_alloc w 53 k.cells)
  have B0 := Lib.hid (new_below w (.cells k.cells.toArray 53))
  have c0 := K0.out.cell (kc0 k)
  have H0 := Lib.hid (h.below B0.out)
  have KO := Lib.hid hk
  have hz2 := zero30
  have HX := Lib.hid hx.out
  obtain ⟨o, ho⟩ : ∃ o, gt a k = o := ⟨_, rfl⟩
  have VO := Lib.hid (show (o.getD vzero).Ok by rw [← ho]; exact getD_ok ((gt_ok h.ok).o k))
  have HO := Lib.hid ho
  have VN := Lib.hid (show (o.getD vzero).n = x by rw [← hx.out, ← ho]; rfl)
  clear h hk hx ho
  go_enter Tryz.func55, Tryz.ntmps55
  rcases hs with e | e
  all_goals
    rw [e] at c0
    go_wp2_with (first
      | (refine wanted_on rfl ?_; refine wpList_load_ky rfl _ rfl w.heap.size 0 k rfl K0.out.range KO.out.ml ?_)
      | (refine wpList_load_ky rfl _ rfl w.heap.size 0 k rfl K0.out.range KO.out.ml ?_))
    refine (refFind_is A n cap a k o _ H0.out KO.out hl HO).mono ?_
    rintro e w1 ⟨he, b1⟩
    subst he
    have Z1 := Lib.hid (blk_alloc w1 56 vzero.cells)
    have B1 := Lib.hid (step_ B0.out b1)
    clear b1
    go_wp2_with (refine wpList_store_vl rfl _ _ rfl w1.heap.size vzero (o.getD vzero) rfl rfl Z1.out rfl VO.out.tl ?_; intro w2 N2 O2; have c5 := N2.out.cell (i := 0) rfl)
    refine bodyPost_ret (results_tmp rfl _ _ _) rfl ⟨?_, B1.out.trans ((box_below O2.out).mono B1.out.size)⟩
    rw [← VN.out]
    rfl
theorem built_hk' (t c r : Int) (b0 b1 b2 b3 b4 b5 b6 b7 : Int) : Tryz.prog.built 53 [(0, .int .u8 t), (1, .int .u16 c), (2, .agg (nm [b0, b1, b2, b3, b4, b5, b6, b7])), (3, .int .u8 r)] = some (⟨t, c, [b0, b1, b2, b3, b4, b5, b6, b7], r, 0⟩ : Ky).cells.toArray := by kernel_rfl
theorem built_hk (t c r : Int) {m : List Int} (h : m.length = 8) : Tryz.prog.built 53 [(0, .int .u8 t), (1, .int .u16 c), (2, .agg (nm m)), (3, .int .u8 r)] = some (hK t c m r).cells.toArray := by
  obtain ⟨b0, b1, b2, b3, b4, b5, b6, b7, rfl⟩ := eight h
  exact built_hk' t c r b0 b1 b2 b3 b4 b5 b6 b7
theorem hK_ok {t c r : Int} {m : List Int} (ht : t = 2 ∨ t = 3) (hc : 0 ≤ c ∧ c < 65536) (hm : NOk m) (hr : 0 ≤ r ∧ r < 256) : (hK t c m r).Ok :=
  ⟨hm.1, hm.2, by show 0 ≤ t; omega, by show t < 256; omega, hc.1, hc.2, hr.1, hr.2, by show (0 : Int) ≤ 0; omega, by show (0 : Int) < 4294967296; omega⟩
theorem exec_convr {o : Oper} {a : Act} {w : World} (x : Operand) (ho : o.op = .convert 3 5 x) (r : Nat) (hx : a.eval x = .int .i64 (r : Int)) (hr : r < 256) :
    (execOp a.eval o).run Tryz.prog w = .ok (.value (.int .u8 (r : Int))) w := by
  have H := Lib.hid (show IntKind.u8.wrap (r : Int) = (r : Int) by
    show ((r : Int) % 256) = _
    omega)
  unfold execOp
  simp only [ho, hx]
  go_simp
  try exact H.out
theorem exec_convi {o : Oper} {a : Act} {w : World} (x : Operand) (ho : o.op = .convert 54 3 x) (r : Int) (hx : a.eval x = .int .u64 r) (h0 : 0 ≤ r ∧ r < 1099511627776) :
    (execOp a.eval o).run Tryz.prog w = .ok (.value (.int .i64 r)) w := by
  have H := Lib.hid (show IntKind.i64.wrap r = r from wrap_small (by omega) (by omega))
  unfold execOp
  simp only [ho, hx]
  go_simp
  try exact H.out
theorem exec_addb {o : Oper} {a : Act} {w : World} (x y : Operand) (ho : o.op = .binOp .add 3 x y 3) (p q : Int) (r : Int) (hx : a.eval x = .int .i64 p) (hy : a.eval y = .int .i64 q) (hr : p + q = r) (hb : -1099511627776 ≤ r ∧ r ≤ 1099511627776) :
    (execOp a.eval o).run Tryz.prog w = .ok (.value (.int .i64 r)) w := by
  unfold execOp
  simp only [ho, hx, hy]
  go_simp
  exact wrap_small (by omega) (by omega)
theorem exec_subb {o : Oper} {a : Act} {w : World} (x y : Operand) (ho : o.op = .binOp .sub 3 x y 3) (p q : Int) (r : Int) (hx : a.eval x = .int .i64 p) (hy : a.eval y = .int .i64 q) (hr : p - q = r) (hb : -1099511627776 ≤ r ∧ r ≤ 1099511627776) :
    (execOp a.eval o).run Tryz.prog w = .ok (.value (.int .i64 r)) w := by
  unfold execOp
  simp only [ho, hx, hy]
  go_simp
  exact wrap_small (by omega) (by omega)
set_option maxRecDepth 100000 in
theorem refTotal_is (A : Option Addr) (n cap : Nat) (a : List Am) (c : Int) (m : List Int) (T : Int) (w : World) (h : RowV w A n cap a) (hl : n ≤ 1000) (hm : NOk m) (hc : 0 ≤ c ∧ c < 65536) (hT : Hid (tot a c m = T)) : Calls Tryz.prog 29 #[.slice A n cap, .int .u16 c, .agg (nm m)] w fun e w' => e = .returned (.int .i64 T) ∧ Below w.heap.size w w' := by
  have N0 := Lib.hid (blk_alloc w 25 (nmL m))
  have B0 := Lib.hid (new_below w (.cells (nm m) 25))
  have H := Lib.hid h
  have HM := Lib.hid hm
  have HC := Lib.hid hc
  have UR := Lib.hid (fun i => up_rg (c := c) (m := m) (fun k hk => hn_rg h.ok (k := k) hk) i)
  have HR := Lib.hid (fun k hk => hn_rg h.ok (k := k) hk)
  have TT := Lib.hid (show up (hn (gt a)) c m 16 = T by rw [← tot_is h.ok]; exact hT.out)
  clear h hm hc hT
  go_enter Tryz.func29, Tryz.ntmps29
  go_wp2_with fail
  go_loopw [7, 8] (fun t i wr => ∃ j : Nat, j ≤ 16 ∧ i = .int .i64 (j : Int) ∧ t = .int .i64 (up (hn (gt a)) c m j) ∧ Below (w.alloc (.cells (nm m) 25)).heap.size (w.alloc (.cells (nm m) 25)) wr) (fun _ i _ => 16 - (intOf i).toNat)
  case atStart => exact ⟨0, Nat.zero_le _, rfl, rfl, Below.refl _ _⟩
  case round =>
    obtain ⟨j, hj, rfl, rfl, hb⟩ := hrel
    have BB := Lib.hid hb
    clear hb
    obtain ⟨u, hu⟩ : ∃ u, up (hn (gt a)) c m j = u := ⟨_, rfl⟩
    rw [hu]
    by_cases hlt : j < 16
    · obtain ⟨p, hp⟩ : ∃ p, hn (gt a) (hK 2 c m (j : Int)) = p := ⟨_, rfl⟩
      obtain ⟨q, hq⟩ : ∃ q, hn (gt a) (hK 3 c m (j : Int)) = q := ⟨_, rfl⟩
      have RP := Lib.hid (show 0 ≤ p ∧ p ≤ 4294967295 by rw [← hp]; exact HR.out _ (.inl rfl))
      have RQ := Lib.hid (show 0 ≤ q ∧ q ≤ 4294967295 by rw [← hq]; exact HR.out _ (.inr rfl))
      have RU := Lib.hid (show -68719476720 ≤ u ∧ u ≤ 68719476720 by have := UR.out j; rw [hu] at this; omega)
      have UP := Lib.hid (show up (hn (gt a)) c m (j + 1) = u + p - q by rw [up, hu, hp, hq])
      have HP := Lib.hid hp
      have HQ := Lib.hid hq
      have NB := Lib.hid (N0.out.below BB.out)
      have H1 := Lib.hid (H.out.below (step_ B0.out BB.out))
      clear hp hq hu
      go_wp2_with (first
        | (refine wpList_val rfl _ (exec_lt _ _ rfl (j : Int) 16 true rfl rfl (decide_eq_true (by omega))) ?_)
        | (refine wpList_load_nm rfl _ rfl w.heap.size 0 m rfl NB.out.range HM.out.1 ?_)
        | (refine wpList_val rfl _ (exec_convr _ rfl j rfl (by omega)) ?_)
        | (refine wpList_build rfl 53 _ rfl [(0, .int .u8 2), (1, .int .u16 c), (2, .agg (nm m)), (3, .int .u8 (j : Int))] rfl _ (built_hk 2 c j HM.out.1) ?_))
      refine (refHalf_is A n cap a (hK 2 c m j) p _ H1.out (hK_ok (.inl rfl) HC.out HM.out (by omega)) hl (.inl rfl) HP).mono ?_
      rintro e w1 ⟨rfl, b1⟩
      have B1 := Lib.hid (step_ BB.out b1)
      have NB1 := Lib.hid (NB.out.below b1)
      have H2 := Lib.hid (H1.out.below b1)
      clear b1
      go_wp2_with (first
        | (refine wpList_val rfl _ (exec_convi _ rfl p rfl (by have := RP.out; omega)) ?_)
        | (refine wpList_val rfl _ (exec_addb _ _ rfl u p (u + p) rfl rfl rfl (by have := RP.out; have := RU.out; omega)) ?_)
        | (refine wpList_load_nm rfl _ rfl w.heap.size 0 m rfl NB1.out.range HM.out.1 ?_)
        | (refine wpList_val rfl _ (exec_convr _ rfl j rfl (by omega)) ?_)
        | (refine wpList_build rfl 53 _ rfl [(0, .int .u8 3), (1, .int .u16 c), (2, .agg (nm m)), (3, .int .u8 (j : Int))] rfl _ (built_hk 3 c j HM.out.1) ?_))
      refine (refHalf_is A n cap a (hK 3 c m j) q _ H2.out (hK_ok (.inr rfl) HC.out HM.out (by omega)) hl (.inr rfl) HQ).mono ?_
      rintro e w2 ⟨rfl, b2⟩
      have B2 := Lib.hid (step_ B1.out b2)
      clear b2
      go_wp2_with (first
        | (refine wpList_val rfl _ (exec_convi _ rfl q rfl (by have := RQ.out; omega)) ?_)
        | (refine wpList_val rfl _ (exec_subb _ _ rfl (u + p) q (u + p - q) rfl rfl rfl (by have := RP.out; have := RQ.out; have := RU.out; omega)) ?_))
      go_roundw
      case rel => exact ⟨j + 1, by omega, by go_num, by rw [UP.out], B2.out⟩
      case measure => simp [intOf]; omega
    · obtain rfl : j = 16 := by omega
      have UT := Lib.hid (show u = T from hu.symm.trans TT.out)
      clear hu
      go_wp2_with (refine wpList_val rfl _ (exec_lt _ _ rfl 16 16 false rfl rfl rfl) ?_)
      go_ret
      exact ⟨by rw [UT.out]; rfl, step_ B0.out BB.out⟩
end Go.Proofs.YtijfbhdbfplghaaGreat
