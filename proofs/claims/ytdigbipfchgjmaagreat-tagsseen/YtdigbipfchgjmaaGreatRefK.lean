/- The contracts of keys, Seen, Live and Drop of the reference. Written by wip/tools/refk_r14.py. -/
import Derived.Test.YtdigbipfchgjmaaGreatRefT
namespace Go.Proofs.YtdigbipfchgjmaaGreat
open Go.RowKit

def ksL (s : List Am) : List Ky := s.map (·.k)
theorem ksL_snoc (s : List Am) (x : Am) : ksL (s ++ [x]) = ksL s ++ [x.k] := List.map_append ..
theorem ksL_len (s : List Am) : (ksL s).length = s.length := List.length_map ..
set_option maxRecDepth 100000 in
set_option maxHeartbeats 2000000 in
theorem refKeys_is (D : Option Addr) (n1 cp : Nat) (s : List Am) (w : World) (h : RowV w D n1 cp s) (ln1 : n1 ≤ 600) : Calls Tryz.prog 26 #[.slice D n1 cp] w (GivesKs w (s.map (·.k))) := by
  have R1 := Lib.hid h
  clear h
  go_enter Tryz.func26, Tryz.ntmps26
  go_wp2_with fail
  go_loopw [3, 4] (fun o i wr => ∃ j : Nat, j ≤ n1 ∧ i = .int .i64 j ∧ OwnG EK wr w.heap.size o (ksL (s.take j)) ∧ Below w.heap.size w wr) (fun _ i _ => n1 - (intOf i).toNat)
  case atStart => exact ⟨0, Nat.zero_le _, rfl, ownG_nil _ _, Below.refl _ _⟩
  case round =>
    obtain ⟨j, hj, rfl, ho, hb⟩ := hrel
    have OO := Lib.hid ho
    have BB := Lib.hid hb
    clear ho hb
    by_cases hlt : j < n1
    · obtain ⟨G, p0, hE⟩ := (R1.out.below BB.out).elem j hlt
      have E := Lib.hid hE
      have TK := Lib.hid (take_getD (l := s) (j := j) (by have := R1.out.len; omega))
      obtain ⟨x, hx⟩ : ∃ x, s.getD j azero = x := ⟨_, rfl⟩
      rw [hx] at E TK
      have DL := Lib.hid (show (ksL (s.take j)).length ≤ 5000 by rw [ksL_len]; have := List.length_take_le j s; omega)
      have XO := Lib.hid (show x.Ok from E.out.ok)
      have EK1 := Lib.hid (show wr.rangeAt G p0 x.k.cells from fun i v hv => E.out.rg i v (by rw [Am.cells, List.getElem?_append_left (List.getElem?_eq_some_iff.1 hv).1]; exact hv))
      clear hE hx
      go_wp2_with (first
        | go_skip
        | (refine wpList_index rfl _ _ rfl D n1 cp G p0 j x _ rfl rfl (by first | rfl | omega) E.out ?_)
        | (refine wpList_load_ky rfl _ rfl G p0 x.k rfl EK1.out XO.out.k.ml ?_)
        | (refine wpList_oneG LK rfl _ rfl x.k rfl XO.out.k ?_; intro g4 w4 e4 N4 Q4)
        | (refine wpList_appG LK rfl _ _ rfl w.heap.size _ (ksL (s.take j)) x.k g4 rfl rfl (OO.out.below Q4.out) XO.out.k N4.out DL.out (Nat.le_trans BB.out.size Q4.out.size) ?_; intro D5 m5 c5 w5 e5 O5 Q5 G5))
      go_roundw
      case rel => exact ⟨j + 1, by omega, by go_num, by rw [TK.out, ksL_snoc]; exact O5.out, (BB.out.trans (Q4.out.mono BB.out.size)).trans Q5.out⟩
      case measure => simp [intOf]; omega
    · obtain rfl : n1 = j := by omega
      have HS := Lib.hid (show s.take n1 = s from List.take_of_length_le (by have := R1.out.len; omega))
      go_wp2_with fail
      go_ret
      rw [HS.out] at OO
      exact ⟨⟨_, rfl, OO.out⟩, BB.out⟩
set_option maxRecDepth 100000 in
theorem refSeen_is (A : Option Addr) (n cap : Nat) (a : List Am) (c : Int) (m : List Int) (w : World) (h : RowV w A n cap a) (hn : n ≤ 600) (hm : m.length = 8) : Calls Tryz.prog 10 #[.slice A n cap, .int .u16 c, .agg (nm m)] w (GivesKs w (seenT a c m)) := by
  have H := Lib.hid h
  have HM := Lib.hid hm
  have R0 := Lib.hid (blk_alloc w 25 (nmL m)).range
  have B0 := Lib.hid (new_below w (.cells (nm m) 25))
  have TL := Lib.hid (show (tagsL c m 0 (norm a)).length ≤ 600 by have := tagsL_len c m 0 (norm a); have := norm_len a; have := h.len; omega)
  clear h hm
  go_enter Tryz.func10, Tryz.ntmps10
  go_wp2_with (refine wpList_load_nm rfl _ rfl w.heap.size 0 m rfl R0.out HM.out ?_)
  refine (refTags_is A n cap a c m 0 _ (H.out.below B0.out) hn HM.out).mono ?_
  rintro e w1 ⟨⟨D, n1, cp, rfl, r1⟩, b1⟩
  have R1 := Lib.hid r1
  have B1 := Lib.hid (step_ B0.out b1)
  clear r1 b1
  go_wp2_with fail
  refine (refKeys_is D n1 cp _ _ R1.out (by have := TL.out; have := R1.out.len; omega)).mono ?_
  rintro e w2 ⟨⟨v, rfl, o2⟩, b2⟩
  have O2 := Lib.hid o2
  have B2 := Lib.hid b2
  clear o2 b2
  go_wp2_with fail
  go_ret
  have O3 := O2.out
  rw [tags_seen] at O3
  exact ⟨⟨_, rfl, O3.down B1.out.size⟩, step_ B1.out B2.out⟩
set_option maxRecDepth 100000 in
theorem refLive_is (A : Option Addr) (n cap : Nat) (a : List Am) (c : Int) (m : List Int) (w : World) (h : RowV w A n cap a) (hn : n ≤ 600) (hm : m.length = 8) : Calls Tryz.prog 7 #[.slice A n cap, .int .u16 c, .agg (nm m)] w (GivesKs w (liveT a c m)) := by
  have H := Lib.hid h
  have HM := Lib.hid hm
  have R0 := Lib.hid (blk_alloc w 25 (nmL m)).range
  have B0 := Lib.hid (new_below w (.cells (nm m) 25))
  have TL := Lib.hid (show (tagsL c m 1 (norm a)).length ≤ 600 by have := tagsL_len c m 1 (norm a); have := norm_len a; have := h.len; omega)
  clear h hm
  go_enter Tryz.func7, Tryz.ntmps7
  go_wp2_with (refine wpList_load_nm rfl _ rfl w.heap.size 0 m rfl R0.out HM.out ?_)
  refine (refTags_is A n cap a c m 1 _ (H.out.below B0.out) hn HM.out).mono ?_
  rintro e w1 ⟨⟨D, n1, cp, rfl, r1⟩, b1⟩
  have R1 := Lib.hid r1
  have B1 := Lib.hid (step_ B0.out b1)
  clear r1 b1
  go_wp2_with fail
  refine (refKeys_is D n1 cp _ _ R1.out (by have := TL.out; have := R1.out.len; omega)).mono ?_
  rintro e w2 ⟨⟨v, rfl, o2⟩, b2⟩
  have O2 := Lib.hid o2
  have B2 := Lib.hid b2
  clear o2 b2
  go_wp2_with fail
  go_ret
  have O3 := O2.out
  rw [tags_live] at O3
  exact ⟨⟨_, rfl, O3.down B1.out.size⟩, step_ B1.out B2.out⟩
theorem dropR_tags (s : List Am) : dropR (s.map (·.k)) = s.map (fun x => ⟨x.k, gone_⟩) := by unfold dropR; rw [List.map_map]; rfl
set_option maxRecDepth 100000 in
set_option maxHeartbeats 2000000 in
theorem refDrop_is (A : Option Addr) (n cap : Nat) (a : List Am) (c : Int) (m : List Int) (w : World) (h : RowV w A n cap a) (hn : n ≤ 600) (hm : m.length = 8) : Calls Tryz.prog 22 #[.slice A n cap, .int .u16 c, .agg (nm m)] w (GivesR w (dropT a c m)) := by
  have H := Lib.hid h
  have HM := Lib.hid hm
  have R0 := Lib.hid (blk_alloc w 25 (nmL m)).range
  have B0 := Lib.hid (new_below w (.cells (nm m) 25))
  have TL := Lib.hid (show (tagsL c m 1 (norm a)).length ≤ 600 by have := tagsL_len c m 1 (norm a); have := norm_len a; have := h.len; omega)
  have LD := Lib.hid (show dropT a c m = dropR ((tagsL c m 1 (norm a)).map (·.k)) by rw [tags_live]; rfl)
  clear h hm
  go_enter Tryz.func22, Tryz.ntmps22
  go_wp2_with (refine wpList_load_nm rfl _ rfl w.heap.size 0 m rfl R0.out HM.out ?_)
  refine (refTags_is A n cap a c m 1 _ (H.out.below B0.out) hn HM.out).mono ?_
  rintro e w1 ⟨⟨D, n1, cp, rfl, r1⟩, b1⟩
  have R1 := Lib.hid r1
  have B1 := Lib.hid (step_ B0.out b1)
  obtain ⟨s, hs⟩ : ∃ s, tagsL c m 1 (norm a) = s := ⟨_, rfl⟩
  rw [hs] at R1 TL LD
  have ln1 : n1 ≤ 600 := by have := TL.out; have := R1.out.len; omega
  clear r1 b1 hs
  go_wp2_with fail
  go_loopw [8, 9] (fun o i wr => ∃ j : Nat, j ≤ n1 ∧ i = .int .i64 j ∧ OwnR wr w1.heap.size o (dropR (ksL (s.take j))) ∧ Below w1.heap.size w1 wr) (fun _ i _ => n1 - (intOf i).toNat)
  case atStart => exact ⟨0, Nat.zero_le _, rfl, ownR_nil _ _, Below.refl _ _⟩
  case round =>
    obtain ⟨j, hj, rfl, ho, hb⟩ := hrel
    have OO := Lib.hid ho
    have BB := Lib.hid hb
    clear ho hb
    by_cases hlt : j < n1
    · obtain ⟨G, p0, hE⟩ := (R1.out.below BB.out).elem j hlt
      have E := Lib.hid hE
      have TK := Lib.hid (take_getD (l := s) (j := j) (by have := R1.out.len; omega))
      obtain ⟨x, hx⟩ : ∃ x, s.getD j azero = x := ⟨_, rfl⟩
      rw [hx] at E TK
      have DL := Lib.hid (show (dropR (ksL (s.take j))).length ≤ 5000 by unfold dropR; rw [List.length_map, ksL_len]; have := List.length_take_le j s; omega)
      have XO := Lib.hid (show x.Ok from E.out.ok)
      have EK1 := Lib.hid (show wr.rangeAt G p0 x.k.cells from fun i v hv => E.out.rg i v (by rw [Am.cells, List.getElem?_append_left (List.getElem?_eq_some_iff.1 hv).1]; exact hv))
      clear hE hx
      go_wp2_with (first
        | go_skip
        | (refine wpList_index rfl _ _ rfl D n1 cp G p0 j x _ rfl rfl (by first | rfl | omega) E.out ?_)
        | (refine wpList_load_ky rfl _ rfl G p0 x.k rfl EK1.out XO.out.k.ml ?_)
        | refine wpList_build rfl 52 _ rfl [(0, .int .u64 2)] rfl _ (built30_1 2) ?_
        | refine wpList_build rfl 56 _ rfl [(0, .agg x.k.cells.toArray), (1, .agg gone_.cells.toArray)] rfl _ (built46 x.k gone_ XO.out.k.ml rfl) ?_
        | (refine wpList_one46 rfl _ rfl ⟨x.k, gone_⟩ rfl ⟨XO.out.k, gone_ok⟩ ?_; intro g4 w4 e4 N4 Q4)
        | (refine wpList_app rfl _ _ rfl w1.heap.size _ (dropR (ksL (s.take j))) ⟨x.k, gone_⟩ g4 rfl rfl (OO.out.below Q4.out) ⟨XO.out.k, gone_ok⟩ N4.out DL.out (Nat.le_trans BB.out.size Q4.out.size) ?_; intro D5 m5 c5 w5 e5 O5 Q5 G5))
      go_roundw
      case rel => exact ⟨j + 1, by omega, by go_num, by rw [TK.out, ksL_snoc, dropR_snoc]; exact O5.out, (BB.out.trans (Q4.out.mono BB.out.size)).trans Q5.out⟩
      case measure => simp [intOf]; omega
    · obtain rfl : n1 = j := by omega
      have HS := Lib.hid (show s.take n1 = s from List.take_of_length_le (by have := R1.out.len; omega))
      go_wp2_with fail
      go_ret
      rw [HS.out] at OO
      rw [LD.out]
      exact GivesR.own OO.out (step_ B1.out BB.out)
end Go.Proofs.YtdigbipfchgjmaaGreat
