/- The contracts of tags, keys, Seen, Live and Drop of the reference. Written by wip/tools/reft_r14.py. The contracts of keys, Seen, Live and Drop of the reference. Written by wip/tools/refk_r14.py. -/
import Derived.Test.YtijfbhdbfplghaaGreatH40
import Derived.Test.YtijfbhdbfplghaaGreatH21
import Derived.Test.YtijfbhdbfplghaaGreatH22
namespace Go.Proofs.YtijfbhdbfplghaaGreat
open Go.RowKit
def tsel (c : Int) (m : List Int) (q : Int) (x : Am) : Bool := decide (x.k.s = 1) && (decide (x.k.c = c) && ((x.k.m == m) && (decide (q = 0) || decide (x.v.n = q))))
def tagsL (c : Int) (m : List Int) (q : Int) (s : List Am) : List Am := s.filter (tsel c m q)
theorem tagsL_snoc (c : Int) (m : List Int) (q : Int) (s : List Am) (x : Am) : tagsL c m q (s ++ [x]) = if tsel c m q x = true then tagsL c m q s ++ [x] else tagsL c m q s := by
  unfold tagsL
  rw [List.filter_append]
  split
  · rename_i h; rw [List.filter_cons_of_pos h]; rfl
  · rename_i h; rw [List.filter_cons_of_neg h]; simp
theorem tagsL_len (c : Int) (m : List Int) (q : Int) (s : List Am) : (tagsL c m q s).length ≤ s.length := List.length_filter_le ..
theorem tags_live (a : List Am) (c : Int) (m : List Int) : (tagsL c m 1 (norm a)).map (·.k) = liveT a c m := by
  unfold tagsL liveT pick
  congr 1
  refine List.filter_congr fun x _ => ?_
  simp only [tsel, sel, pof, pth]
  cases decide (x.k.s = 1) <;> cases decide (x.k.c = c) <;> cases (x.k.m == m) <;> cases decide (x.v.n = 1) <;> rfl
set_option maxRecDepth 100000 in
set_option maxHeartbeats 8000000 in
theorem refTags_is (A : Option Addr) (n cap : Nat) (a : List Am) (c : Int) (m : List Int) (q : Int) (w : World) (h : RowV w A n cap a) (hn : n ≤ 600) (hm : m.length = 8) : Calls Tryz.prog 54 #[.slice A n cap, .int .u16 c, .agg (nm m), .int .u64 q] w (GivesR w (tagsL c m q (norm a))) := by
  have H := Lib.hid h
  have HM := Lib.hid hm
  have Q6 := Lib.hid (blk_alloc w 25 (nmL m))
  have B0 := Lib.hid (new_below w (.cells (nm m) 25))
  clear h hm
  go_enter Tryz.func54, Tryz.ntmps54
  go_wp2_with fail
  refine (refNorm_is A n cap a _ (H.out.below B0.out) (by omega)).mono ?_
  rintro e w1 ⟨⟨D, n1, cp, rfl, r1⟩, b1⟩
  have R1 := Lib.hid r1
  have B1 := Lib.hid (step_ B0.out b1)
  have R6 := Lib.hid (Q6.out.below b1)
  obtain ⟨s, hs⟩ : ∃ s, norm a = s := ⟨_, rfl⟩
  have ln1 : n1 ≤ 600 := by have := norm_len a; have := r1.len; have := H.out.len; omega
  have NS := Lib.hid hs
  rw [hs] at R1
  clear r1 b1 hs Q6
  have hz := zero27
  go_wp2_with fail
  go_loopw [9, 10] (fun o i wr => ∃ j : Nat, j ≤ n1 ∧ i = .int .i64 j ∧ OwnR wr w1.heap.size o (tagsL c m q (s.take j)) ∧ Below w1.heap.size w1 wr) (fun _ i _ => n1 - (intOf i).toNat)
  case atStart => exact ⟨0, Nat.zero_le _, rfl, ownR_nil _ _, Below.refl _ _⟩
  case round =>
    obtain ⟨j, hj, rfl, ho, hb⟩ := hrel
    have OO := Lib.hid ho
    have BB := Lib.hid hb
    clear ho hb
    by_cases hlt : j < n1
    · obtain ⟨G, p0, hE⟩ := (R1.out.below BB.out).elem j hlt
      have E := Lib.hid hE
      have TK := Lib.hid (take_getD (l := s) (j := j) (by have := R1.out.len; omega))
      obtain ⟨x, hx⟩ : ∃ x, s.getD j azero = x := ⟨_, rfl⟩
      rw [hx] at E TK
      have DL := Lib.hid (show (tagsL c m q (s.take j)).length ≤ 5000 by have := tagsL_len c m q (s.take j); have := List.length_take_le j s; omega)
      have Z1 := Lib.hid (blk_alloc wr 53 kzero.cells)
      have XO := Lib.hid (show x.Ok from E.out.ok)
      have EK1 := Lib.hid (show wr.rangeAt G p0 x.k.cells from fun i v hv => E.out.rg i v (by rw [Am.cells, List.getElem?_append_left (List.getElem?_eq_some_iff.1 hv).1]; exact hv))
      clear hE hx
      by_cases h1 : x.k.s = 1
      · have b1 : (x.k.s == 1) = true := by simpa using h1
        by_cases h2 : x.k.c = c
        · have b2 : (x.k.c == c) = true := by simpa using h2
          cases h3 : (x.k.m == m) with
          | false =>
            have EM := Lib.hid h3
            have SF := Lib.hid (show tsel c m q x = false by simp [tsel, h3])
            go_wp2_with (first
          | go_skip
          | (refine wpList_index rfl _ _ rfl D n1 cp G p0 j x _ rfl rfl (by first | rfl | omega) E.out ?_)
          | (refine wpList_load_ky rfl _ rfl G p0 x.k rfl EK1.out XO.out.k.ml ?_)
          | (refine wpList_store_ky rfl _ _ rfl wr.heap.size kzero x.k rfl rfl Z1.out kzero_ok.ml XO.out.k.ml ?_; intro w3 N3 O3; have Q3 := Lib.hid (box_below O3.out); have E3 := Lib.hid (E.out.below Q3.out); have c1 := N3.out.cell (kc0 x.k); have c2 := N3.out.cell (kc1 x.k); have c3 := E3.out.rg 12 _ (ac12 XO.out); have R3 := Lib.hid (((R6.out.below BB.out).below Q3.out).range))
          | (refine wanted_on rfl ?_; refine wpList_load_nm rfl _ rfl wr.heap.size 2 x.k.m rfl (N3.out.knm XO.out.k.ml) XO.out.k.ml ?_)
          | (refine wanted_on rfl ?_; refine wpList_load_nm rfl _ rfl w.heap.size 0 m rfl R3.out HM.out ?_)
          | (refine wanted_on rfl ?_; refine wpList_val rfl _ (exec_eq_nm _ _ _ rfl x.k.m m rfl rfl XO.out.k.ml HM.out) ?_; rw [EM.out])
          | (refine wanted_on rfl ?_; refine wpList_index rfl _ _ rfl D n1 cp G p0 j x _ rfl rfl (by first | rfl | omega) E3.out ?_)
          | (refine wpList_index rfl _ _ rfl D n1 cp G p0 j x _ rfl rfl (by first | rfl | omega) E3.out ?_)
          | (refine wpList_load_amx rfl _ rfl G p0 x rfl E3.out.rg XO.out ?_)
          | (refine wpList_one46 rfl _ rfl x rfl XO.out ?_; intro g4 w4 e4 N4 Q4)
          | (refine wpList_app rfl _ _ rfl w1.heap.size _ (tagsL c m q (s.take j)) x g4 rfl rfl ((OO.out.below Q3.out).below Q4.out) XO.out N4.out DL.out (Nat.le_trans BB.out.size (Nat.le_trans Q3.out.size Q4.out.size)) ?_; intro D5 m5 c5 w5 e5 O5 Q5 G5))
            go_roundw
            case rel => exact ⟨j + 1, by omega, by go_num, by rw [TK.out, tagsL_snoc, SF.out, if_neg (by decide)]; exact OO.out.below Q3.out, BB.out.trans (Q3.out.mono BB.out.size)⟩
            case measure => simp [intOf]; omega
          | true =>
            have EM := Lib.hid h3
            by_cases h4 : q = 0
            · subst h4
              have SF := Lib.hid (show tsel c m 0 x = true by simp [tsel, h1, h2, h3])
              go_wp2_with (first
          | go_skip
          | (refine wpList_index rfl _ _ rfl D n1 cp G p0 j x _ rfl rfl (by first | rfl | omega) E.out ?_)
          | (refine wpList_load_ky rfl _ rfl G p0 x.k rfl EK1.out XO.out.k.ml ?_)
          | (refine wpList_store_ky rfl _ _ rfl wr.heap.size kzero x.k rfl rfl Z1.out kzero_ok.ml XO.out.k.ml ?_; intro w3 N3 O3; have Q3 := Lib.hid (box_below O3.out); have E3 := Lib.hid (E.out.below Q3.out); have c1 := N3.out.cell (kc0 x.k); have c2 := N3.out.cell (kc1 x.k); have c3 := E3.out.rg 12 _ (ac12 XO.out); have R3 := Lib.hid (((R6.out.below BB.out).below Q3.out).range))
          | (refine wanted_on rfl ?_; refine wpList_load_nm rfl _ rfl wr.heap.size 2 x.k.m rfl (N3.out.knm XO.out.k.ml) XO.out.k.ml ?_)
          | (refine wanted_on rfl ?_; refine wpList_load_nm rfl _ rfl w.heap.size 0 m rfl R3.out HM.out ?_)
          | (refine wanted_on rfl ?_; refine wpList_val rfl _ (exec_eq_nm _ _ _ rfl x.k.m m rfl rfl XO.out.k.ml HM.out) ?_; rw [EM.out])
          | (refine wanted_on rfl ?_; refine wpList_index rfl _ _ rfl D n1 cp G p0 j x _ rfl rfl (by first | rfl | omega) E3.out ?_)
          | (refine wpList_index rfl _ _ rfl D n1 cp G p0 j x _ rfl rfl (by first | rfl | omega) E3.out ?_)
          | (refine wpList_load_amx rfl _ rfl G p0 x rfl E3.out.rg XO.out ?_)
          | (refine wpList_one46 rfl _ rfl x rfl XO.out ?_; intro g4 w4 e4 N4 Q4)
          | (refine wpList_app rfl _ _ rfl w1.heap.size _ (tagsL c m 0 (s.take j)) x g4 rfl rfl ((OO.out.below Q3.out).below Q4.out) XO.out N4.out DL.out (Nat.le_trans BB.out.size (Nat.le_trans Q3.out.size Q4.out.size)) ?_; intro D5 m5 c5 w5 e5 O5 Q5 G5))
              go_roundw
              case rel => exact ⟨j + 1, by omega, by go_num, by rw [TK.out, tagsL_snoc, SF.out, if_pos rfl]; exact O5.out, ((BB.out.trans (Q3.out.mono BB.out.size)).trans (Q4.out.mono (Nat.le_trans BB.out.size Q3.out.size))).trans Q5.out⟩
              case measure => simp [intOf]; omega
            · have b4 : (q == 0) = false := by simpa using h4
              by_cases h5 : x.v.n = q
              · have b5 : (x.v.n == q) = true := by simpa using h5
                have SF := Lib.hid (show tsel c m q x = true by simp [tsel, h1, h2, h3, h4, h5])
                go_wp2_with (first
          | go_skip
          | (refine wpList_index rfl _ _ rfl D n1 cp G p0 j x _ rfl rfl (by first | rfl | omega) E.out ?_)
          | (refine wpList_load_ky rfl _ rfl G p0 x.k rfl EK1.out XO.out.k.ml ?_)
          | (refine wpList_store_ky rfl _ _ rfl wr.heap.size kzero x.k rfl rfl Z1.out kzero_ok.ml XO.out.k.ml ?_; intro w3 N3 O3; have Q3 := Lib.hid (box_below O3.out); have E3 := Lib.hid (E.out.below Q3.out); have c1 := N3.out.cell (kc0 x.k); have c2 := N3.out.cell (kc1 x.k); have c3 := E3.out.rg 12 _ (ac12 XO.out); have R3 := Lib.hid (((R6.out.below BB.out).below Q3.out).range))
          | (refine wanted_on rfl ?_; refine wpList_load_nm rfl _ rfl wr.heap.size 2 x.k.m rfl (N3.out.knm XO.out.k.ml) XO.out.k.ml ?_)
          | (refine wanted_on rfl ?_; refine wpList_load_nm rfl _ rfl w.heap.size 0 m rfl R3.out HM.out ?_)
          | (refine wanted_on rfl ?_; refine wpList_val rfl _ (exec_eq_nm _ _ _ rfl x.k.m m rfl rfl XO.out.k.ml HM.out) ?_; rw [EM.out])
          | (refine wanted_on rfl ?_; refine wpList_index rfl _ _ rfl D n1 cp G p0 j x _ rfl rfl (by first | rfl | omega) E3.out ?_)
          | (refine wpList_index rfl _ _ rfl D n1 cp G p0 j x _ rfl rfl (by first | rfl | omega) E3.out ?_)
          | (refine wpList_load_amx rfl _ rfl G p0 x rfl E3.out.rg XO.out ?_)
          | (refine wpList_one46 rfl _ rfl x rfl XO.out ?_; intro g4 w4 e4 N4 Q4)
          | (refine wpList_app rfl _ _ rfl w1.heap.size _ (tagsL c m q (s.take j)) x g4 rfl rfl ((OO.out.below Q3.out).below Q4.out) XO.out N4.out DL.out (Nat.le_trans BB.out.size (Nat.le_trans Q3.out.size Q4.out.size)) ?_; intro D5 m5 c5 w5 e5 O5 Q5 G5))
                go_roundw
                case rel => exact ⟨j + 1, by omega, by go_num, by rw [TK.out, tagsL_snoc, SF.out, if_pos rfl]; exact O5.out, ((BB.out.trans (Q3.out.mono BB.out.size)).trans (Q4.out.mono (Nat.le_trans BB.out.size Q3.out.size))).trans Q5.out⟩
                case measure => simp [intOf]; omega
              · have b5 : (x.v.n == q) = false := by simpa using h5
                have SF := Lib.hid (show tsel c m q x = false by simp [tsel, h1, h2, h3, h4, h5])
                go_wp2_with (first
          | go_skip
          | (refine wpList_index rfl _ _ rfl D n1 cp G p0 j x _ rfl rfl (by first | rfl | omega) E.out ?_)
          | (refine wpList_load_ky rfl _ rfl G p0 x.k rfl EK1.out XO.out.k.ml ?_)
          | (refine wpList_store_ky rfl _ _ rfl wr.heap.size kzero x.k rfl rfl Z1.out kzero_ok.ml XO.out.k.ml ?_; intro w3 N3 O3; have Q3 := Lib.hid (box_below O3.out); have E3 := Lib.hid (E.out.below Q3.out); have c1 := N3.out.cell (kc0 x.k); have c2 := N3.out.cell (kc1 x.k); have c3 := E3.out.rg 12 _ (ac12 XO.out); have R3 := Lib.hid (((R6.out.below BB.out).below Q3.out).range))
          | (refine wanted_on rfl ?_; refine wpList_load_nm rfl _ rfl wr.heap.size 2 x.k.m rfl (N3.out.knm XO.out.k.ml) XO.out.k.ml ?_)
          | (refine wanted_on rfl ?_; refine wpList_load_nm rfl _ rfl w.heap.size 0 m rfl R3.out HM.out ?_)
          | (refine wanted_on rfl ?_; refine wpList_val rfl _ (exec_eq_nm _ _ _ rfl x.k.m m rfl rfl XO.out.k.ml HM.out) ?_; rw [EM.out])
          | (refine wanted_on rfl ?_; refine wpList_index rfl _ _ rfl D n1 cp G p0 j x _ rfl rfl (by first | rfl | omega) E3.out ?_)
          | (refine wpList_index rfl _ _ rfl D n1 cp G p0 j x _ rfl rfl (by first | rfl | omega) E3.out ?_)
          | (refine wpList_load_amx rfl _ rfl G p0 x rfl E3.out.rg XO.out ?_)
          | (refine wpList_one46 rfl _ rfl x rfl XO.out ?_; intro g4 w4 e4 N4 Q4)
          | (refine wpList_app rfl _ _ rfl w1.heap.size _ (tagsL c m q (s.take j)) x g4 rfl rfl ((OO.out.below Q3.out).below Q4.out) XO.out N4.out DL.out (Nat.le_trans BB.out.size (Nat.le_trans Q3.out.size Q4.out.size)) ?_; intro D5 m5 c5 w5 e5 O5 Q5 G5))
                go_roundw
                case rel => exact ⟨j + 1, by omega, by go_num, by rw [TK.out, tagsL_snoc, SF.out, if_neg (by decide)]; exact OO.out.below Q3.out, BB.out.trans (Q3.out.mono BB.out.size)⟩
                case measure => simp [intOf]; omega
        · have b2 : (x.k.c == c) = false := by simpa using h2
          have SF := Lib.hid (show tsel c m q x = false by simp [tsel, h2])
          go_wp2_with (first
          | go_skip
          | (refine wpList_index rfl _ _ rfl D n1 cp G p0 j x _ rfl rfl (by first | rfl | omega) E.out ?_)
          | (refine wpList_load_ky rfl _ rfl G p0 x.k rfl EK1.out XO.out.k.ml ?_)
          | (refine wpList_store_ky rfl _ _ rfl wr.heap.size kzero x.k rfl rfl Z1.out kzero_ok.ml XO.out.k.ml ?_; intro w3 N3 O3; have Q3 := Lib.hid (box_below O3.out); have E3 := Lib.hid (E.out.below Q3.out); have c1 := N3.out.cell (kc0 x.k); have c2 := N3.out.cell (kc1 x.k); have c3 := E3.out.rg 12 _ (ac12 XO.out); have R3 := Lib.hid (((R6.out.below BB.out).below Q3.out).range))
          | (refine wanted_on rfl ?_; refine wpList_load_nm rfl _ rfl wr.heap.size 2 x.k.m rfl (N3.out.knm XO.out.k.ml) XO.out.k.ml ?_)
          | (refine wanted_on rfl ?_; refine wpList_load_nm rfl _ rfl w.heap.size 0 m rfl R3.out HM.out ?_)
          | (refine wanted_on rfl ?_; refine wpList_val rfl _ (exec_eq_nm _ _ _ rfl x.k.m m rfl rfl XO.out.k.ml HM.out) ?_; rw [EM.out])
          | (refine wanted_on rfl ?_; refine wpList_index rfl _ _ rfl D n1 cp G p0 j x _ rfl rfl (by first | rfl | omega) E3.out ?_)
          | (refine wpList_index rfl _ _ rfl D n1 cp G p0 j x _ rfl rfl (by first | rfl | omega) E3.out ?_)
          | (refine wpList_load_amx rfl _ rfl G p0 x rfl E3.out.rg XO.out ?_)
          | (refine wpList_one46 rfl _ rfl x rfl XO.out ?_; intro g4 w4 e4 N4 Q4)
          | (refine wpList_app rfl _ _ rfl w1.heap.size _ (tagsL c m q (s.take j)) x g4 rfl rfl ((OO.out.below Q3.out).below Q4.out) XO.out N4.out DL.out (Nat.le_trans BB.out.size (Nat.le_trans Q3.out.size Q4.out.size)) ?_; intro D5 m5 c5 w5 e5 O5 Q5 G5))
          go_roundw
          case rel => exact ⟨j + 1, by omega, by go_num, by rw [TK.out, tagsL_snoc, SF.out, if_neg (by decide)]; exact OO.out.below Q3.out, BB.out.trans (Q3.out.mono BB.out.size)⟩
          case measure => simp [intOf]; omega
      · have b1 : (x.k.s == 1) = false := by simpa using h1
        have SF := Lib.hid (show tsel c m q x = false by simp [tsel, h1])
        go_wp2_with (first
          | go_skip
          | (refine wpList_index rfl _ _ rfl D n1 cp G p0 j x _ rfl rfl (by first | rfl | omega) E.out ?_)
          | (refine wpList_load_ky rfl _ rfl G p0 x.k rfl EK1.out XO.out.k.ml ?_)
          | (refine wpList_store_ky rfl _ _ rfl wr.heap.size kzero x.k rfl rfl Z1.out kzero_ok.ml XO.out.k.ml ?_; intro w3 N3 O3; have Q3 := Lib.hid (box_below O3.out); have E3 := Lib.hid (E.out.below Q3.out); have c1 := N3.out.cell (kc0 x.k); have c2 := N3.out.cell (kc1 x.k); have c3 := E3.out.rg 12 _ (ac12 XO.out); have R3 := Lib.hid (((R6.out.below BB.out).below Q3.out).range))
          | (refine wanted_on rfl ?_; refine wpList_load_nm rfl _ rfl wr.heap.size 2 x.k.m rfl (N3.out.knm XO.out.k.ml) XO.out.k.ml ?_)
          | (refine wanted_on rfl ?_; refine wpList_load_nm rfl _ rfl w.heap.size 0 m rfl R3.out HM.out ?_)
          | (refine wanted_on rfl ?_; refine wpList_val rfl _ (exec_eq_nm _ _ _ rfl x.k.m m rfl rfl XO.out.k.ml HM.out) ?_; rw [EM.out])
          | (refine wanted_on rfl ?_; refine wpList_index rfl _ _ rfl D n1 cp G p0 j x _ rfl rfl (by first | rfl | omega) E3.out ?_)
          | (refine wpList_index rfl _ _ rfl D n1 cp G p0 j x _ rfl rfl (by first | rfl | omega) E3.out ?_)
          | (refine wpList_load_amx rfl _ rfl G p0 x rfl E3.out.rg XO.out ?_)
          | (refine wpList_one46 rfl _ rfl x rfl XO.out ?_; intro g4 w4 e4 N4 Q4)
          | (refine wpList_app rfl _ _ rfl w1.heap.size _ (tagsL c m q (s.take j)) x g4 rfl rfl ((OO.out.below Q3.out).below Q4.out) XO.out N4.out DL.out (Nat.le_trans BB.out.size (Nat.le_trans Q3.out.size Q4.out.size)) ?_; intro D5 m5 c5 w5 e5 O5 Q5 G5))
        go_roundw
        case rel => exact ⟨j + 1, by omega, by go_num, by rw [TK.out, tagsL_snoc, SF.out, if_neg (by decide)]; exact OO.out.below Q3.out, BB.out.trans (Q3.out.mono BB.out.size)⟩
        case measure => simp [intOf]; omega
    · obtain rfl : n1 = j := by omega
      have HS := Lib.hid (show s.take n1 = s from List.take_of_length_le (by have := R1.out.len; omega))
      go_wp2_with fail
      go_ret
      rw [HS.out] at OO
      rw [NS.out]
      exact GivesR.own OO.out (step_ B1.out BB.out)
end Go.Proofs.YtijfbhdbfplghaaGreat
namespace Go.Proofs.YtijfbhdbfplghaaGreat
open Go.RowKit
def ksL (s : List Am) : List Ky := s.map (·.k)
theorem ksL_snoc (s : List Am) (x : Am) : ksL (s ++ [x]) = ksL s ++ [x.k] := List.map_append ..
theorem ksL_len (s : List Am) : (ksL s).length = s.length := List.length_map ..
set_option maxRecDepth 100000 in
set_option maxHeartbeats 2000000 in
theorem refKeys_is (D : Option Addr) (n1 cp : Nat) (s : List Am) (w : World) (h : RowV w D n1 cp s) (ln1 : n1 ≤ 600) : Calls Tryz.prog 53 #[.slice D n1 cp] w (GivesKs w (s.map (·.k))) := by
  have R1 := Lib.hid h
  clear h
  go_enter Tryz.func53, Tryz.ntmps53
  go_wp2_with fail
  go_loopw [3, 4] (fun o i wr => ∃ j : Nat, j ≤ n1 ∧ i = .int .i64 j ∧ OwnG EK wr w.heap.size o (ksL (s.take j)) ∧ Below w.heap.size w wr) (fun _ i _ => n1 - (intOf i).toNat)
  case atStart => exact ⟨0, Nat.zero_le _, rfl, ownG_nil _ _, Below.refl _ _⟩
  case round =>
    obtain ⟨j, hj, rfl, ho, hb⟩ := hrel
    have OO := Lib.hid ho
    have BB := Lib.hid hb
    clear ho hb
    by_cases hlt : j < n1
    · obtain ⟨G, p0, hE⟩ := (R1.out.below BB.out).elem j hlt
      have E := Lib.hid hE
      have TK := Lib.hid (take_getD (l := s) (j := j) (by have := R1.out.len; omega))
      obtain ⟨x, hx⟩ : ∃ x, s.getD j azero = x := ⟨_, rfl⟩
      rw [hx] at E TK
      have DL := Lib.hid (show (ksL (s.take j)).length ≤ 5000 by rw [ksL_len]; have := List.length_take_le j s; omega)
      have XO := Lib.hid (show x.Ok from E.out.ok)
      have EK1 := Lib.hid (show wr.rangeAt G p0 x.k.cells from fun i v hv => E.out.rg i v (by rw [Am.cells, List.getElem?_append_left (List.getElem?_eq_some_iff.1 hv).1]; exact hv))
      clear hE hx
      go_wp2_with (first
        | go_skip
        | (refine wpList_index rfl _ _ rfl D n1 cp G p0 j x _ rfl rfl (by first | rfl | omega) E.out ?_)
        | (refine wpList_load_ky rfl _ rfl G p0 x.k rfl EK1.out XO.out.k.ml ?_)
        | (refine wpList_oneG LK rfl _ rfl x.k rfl XO.out.k ?_; intro g4 w4 e4 N4 Q4)
        | (refine wpList_appG LK rfl _ _ rfl w.heap.size _ (ksL (s.take j)) x.k g4 rfl rfl (OO.out.below Q4.out) XO.out.k N4.out DL.out (Nat.le_trans BB.out.size Q4.out.size) ?_; intro D5 m5 c5 w5 e5 O5 Q5 G5))
      go_roundw
      case rel => exact ⟨j + 1, by omega, by go_num, by rw [TK.out, ksL_snoc]; exact O5.out, (BB.out.trans (Q4.out.mono BB.out.size)).trans Q5.out⟩
      case measure => simp [intOf]; omega
    · obtain rfl : n1 = j := by omega
      have HS := Lib.hid (show s.take n1 = s from List.take_of_length_le (by have := R1.out.len; omega))
      go_wp2_with fail
      go_ret
      rw [HS.out] at OO
      exact ⟨⟨_, rfl, OO.out⟩, BB.out⟩
set_option maxRecDepth 100000 in
theorem refLive_is (A : Option Addr) (n cap : Nat) (a : List Am) (c : Int) (m : List Int) (w : World) (h : RowV w A n cap a) (hn : n ≤ 600) (hm : m.length = 8) : Calls Tryz.prog 28 #[.slice A n cap, .int .u16 c, .agg (nm m)] w (GivesKs w (liveT a c m)) := by
  have H := Lib.hid h
  have HM := Lib.hid hm
  have R0 := Lib.hid (blk_alloc w 25 (nmL m)).range
  have B0 := Lib.hid (new_below w (.cells (nm m) 25))
  have TL := Lib.hid (show (tagsL c m 1 (norm a)).length ≤ 600 by have := tagsL_len c m 1 (norm a); have := norm_len a; have := h.len; omega)
  clear h hm
  go_enter Tryz.func28, Tryz.ntmps28
  go_wp2_with (refine wpList_load_nm rfl _ rfl w.heap.size 0 m rfl R0.out HM.out ?_)
  refine (refTags_is A n cap a c m 1 _ (H.out.below B0.out) hn HM.out).mono ?_
  rintro e w1 ⟨⟨D, n1, cp, rfl, r1⟩, b1⟩
  have R1 := Lib.hid r1
  have B1 := Lib.hid (step_ B0.out b1)
  clear r1 b1
  go_wp2_with fail
  refine (refKeys_is D n1 cp _ _ R1.out (by have := TL.out; have := R1.out.len; omega)).mono ?_
  rintro e w2 ⟨⟨v, rfl, o2⟩, b2⟩
  have O2 := Lib.hid o2
  have B2 := Lib.hid b2
  clear o2 b2
  go_wp2_with fail
  go_ret
  have O3 := O2.out
  rw [tags_live] at O3
  exact ⟨⟨_, rfl, O3.down B1.out.size⟩, step_ B1.out B2.out⟩
end Go.Proofs.YtijfbhdbfplghaaGreat
