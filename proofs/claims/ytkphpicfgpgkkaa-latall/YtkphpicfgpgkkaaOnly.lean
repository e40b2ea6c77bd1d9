/- The contract of only of package lat. -/
import Derived.Test.YtkphpicfgpgkkaaLists
namespace Go.Proofs.Ytkphpicfgpgkkaa
open Go.RowKit

theorem only_snoc (l : List Am) (a : Am) (k : Ky) : only (l ++ [a]) k = if a.k = k then only l k ++ [a] else only l k := by
  unfold only
  rw [List.filter_append]
  by_cases h : a.k = k <;> simp [h]
theorem only_len (l : List Am) (k : Ky) : (only l k).length ≤ l.length := List.length_filter_le ..
set_option maxRecDepth 100000 in
set_option maxHeartbeats 2000000 in
theorem only_is (A : Option Addr) (n cap : Nat) (l : List Am) (k : Ky) (w : World) (h : RowV w A n cap l) (hk : k.Ok) (hn : n ≤ 1000) : Calls Try.prog 28 #[.slice A n cap, .agg k.cells.toArray] w (GivesR w (only l k)) := by
  have hz := zero32
  have H := Lib.hid h
  have HK := Lib.hid hk
  have Q0 := Lib.hid (blk_alloc w 28 k.cells)
  have B0 := Lib.hid (new_below w (.cells k.cells.toArray 28))
  have O0 := Lib.hid (ownR_nil (w.alloc (.cells k.cells.toArray 28)) (w.heap.size + 1))
  clear h hk
  go_enter Try.func28, Try.ntmps28
  go_wp2_with fail
  go_loopw [5, 10] (fun v i wr => ∃ j : Nat, j ≤ n ∧ i = .int .i64 j ∧ OwnR wr (w.heap.size + 1) v (only (l.take j) k) ∧ Below w.heap.size w wr ∧ Blk wr w.heap.size 28 k.cells) (fun _ i _ => n - (intOf i).toNat)
  case atStart => exact ⟨0, Nat.zero_le _, rfl, O0.out, B0.out, Q0.out⟩
  case round =>
    obtain ⟨j, hj, rfl, ho, hb, hq⟩ := hrel
    have OO := Lib.hid ho
    have BB := Lib.hid hb
    have QQ := Lib.hid hq
    clear ho hb hq
    by_cases hlt : j < n
    · obtain ⟨G, p, hE⟩ := (H.out.below BB.out).elem j hlt
      have E := Lib.hid hE
      have T := Lib.hid (take_getD (l := l) (j := j) (by have := H.out.len; omega))
      obtain ⟨x, hx⟩ : ∃ x, l.getD j azero = x := ⟨_, rfl⟩
      rw [hx] at E T
      clear hE hx
      have Z := Lib.hid (blk_alloc wr 46 azero.cells)
      have HL := Lib.hid (show (only (l.take j) k).length ≤ 5000 from Nat.le_trans (only_len _ _) (by rw [List.length_take]; omega))
      have HB := Lib.hid (show w.heap.size + 1 ≤ wr.heap.size from QQ.out.lt)
      by_cases hkk : x.k = k
      · have HE := Lib.hid (show decide (x.k = k) = true from decide_eq_true hkk)
        have HS := Lib.hid (show only (l.take (j + 1)) k = only (l.take j) k ++ [x] by rw [T.out, only_snoc, if_pos hkk])
        clear hkk
        go_wp2_with (first
          | go_skip
          | refine wpList_index rfl _ _ rfl A n cap G p j x _ rfl rfl (by first | rfl | omega) E.out ?_
          | refine wpList_load_amx rfl _ rfl G p x rfl E.out.rg E.out.ok ?_
          | (refine wpList_store_am rfl _ _ rfl wr.heap.size azero x rfl rfl Z.out azero_ok E.out.ok ?_; intro w2 N2 O2; have B2 := Lib.hid (box_below O2.out); have Q2 := Lib.hid (QQ.out.below B2.out))
          | refine wpList_load_ky rfl _ rfl wr.heap.size 0 x.k rfl N2.out.ak E.out.ok.k.ml ?_
          | refine wpList_load_ky rfl _ rfl w.heap.size 0 k rfl Q2.out.range HK.out.ml ?_
          | refine wpList_eq_ky rfl _ _ _ rfl x.k k true rfl rfl E.out.ok.k HK.out HE.out ?_
          | refine wpList_load_am rfl _ rfl wr.heap.size x rfl N2.out E.out.ok ?_
          | (refine wpList_one46 rfl _ rfl x rfl E.out.ok ?_; intro g3 w3 e3 N3 B3)
          | (refine wpList_app rfl _ _ rfl (w.heap.size + 1) _ (only (l.take j) k) x g3 rfl rfl (OO.out.below (step_ B2.out B3.out)) E.out.ok N3.out HL.out (Nat.le_trans HB.out (Nat.le_trans B2.out.size B3.out.size)) ?_; intro D m c4 w4 e4 O4 B4 G4))
        go_roundw
        case rel => exact ⟨j + 1, by omega, by go_num, by rw [HS.out]; exact O4.out, (step_ BB.out (step_ B2.out B3.out)).trans (B4.out.mono (Nat.le_succ _)), (Q2.out.below B3.out).upto B4.out (Nat.lt_succ_self _)⟩
        case measure => simp [intOf]; omega
      · have HE := Lib.hid (show decide (x.k = k) = false from decide_eq_false hkk)
        have HS := Lib.hid (show only (l.take (j + 1)) k = only (l.take j) k by rw [T.out, only_snoc, if_neg hkk])
        clear hkk
        go_wp2_with (first
          | go_skip
          | refine wpList_index rfl _ _ rfl A n cap G p j x _ rfl rfl (by first | rfl | omega) E.out ?_
          | refine wpList_load_amx rfl _ rfl G p x rfl E.out.rg E.out.ok ?_
          | (refine wpList_store_am rfl _ _ rfl wr.heap.size azero x rfl rfl Z.out azero_ok E.out.ok ?_; intro w2 N2 O2; have B2 := Lib.hid (box_below O2.out); have Q2 := Lib.hid (QQ.out.below B2.out))
          | refine wpList_load_ky rfl _ rfl wr.heap.size 0 x.k rfl N2.out.ak E.out.ok.k.ml ?_
          | refine wpList_load_ky rfl _ rfl w.heap.size 0 k rfl Q2.out.range HK.out.ml ?_
          | refine wpList_eq_ky rfl _ _ _ rfl x.k k false rfl rfl E.out.ok.k HK.out HE.out ?_)
        go_roundw
        case rel => exact ⟨j + 1, by omega, by go_num, by rw [HS.out]; exact OO.out.below B2.out, step_ BB.out B2.out, Q2.out⟩
        case measure => simp [intOf]; omega
    · obtain rfl : j = n := by omega
      have HS := Lib.hid (show l.take j = l from List.take_of_length_le (by have := H.out.len; omega))
      go_wp2_with fail
      go_ret
      exact GivesR.own (by rw [HS.out] at OO; exact OO.out) BB.out
end Go.Proofs.Ytkphpicfgpgkkaa
