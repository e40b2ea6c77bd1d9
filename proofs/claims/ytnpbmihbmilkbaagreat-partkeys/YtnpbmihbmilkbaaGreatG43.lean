/- The contracts of find and of Rows of the reference. The contracts of Find and All of the reference; rows of rows. The contracts of find and of Rows of the reference. The contracts of Keys and Names of the reference. Written by wip/tools/same_r14.py. Rows of numbers: Same, Has, put, Rise, Sift of the reference; buckets. -/
import Derived.Test.YtnpbmihbmilkbaaGreatG01
import Derived.Test.YtnpbmihbmilkbaaGreatG16
import Derived.Test.YtnpbmihbmilkbaaGreatG28
import Derived.Test.YtnpbmihbmilkbaaGreatG14
import Derived.Test.YtnpbmihbmilkbaaGreatG42
import Derived.Test.YtnpbmihbmilkbaaGreatG21
namespace Go.Proofs.YtnpbmihbmilkbaaGreat
open Go.RowKit
set_option maxRecDepth 100000 in
set_option maxHeartbeats 2000000 in
theorem find_is (A : Option Addr) (n cap : Nat) (l : List Am) (k : Ky) (o : Option Vl) (w : World) (h : RowV w A n cap l) (hk : k.Ok) (hn : n ≤ 5000) (ho : Hid (fnd l k = o)) : Calls Tryz.prog 35 #[.slice A n cap, .agg k.cells.toArray] w (GivesV w o) := by
  have hz := zero30
  have H := Lib.hid h
  have HK := Lib.hid hk
  have Q0 := Lib.hid ((blk_alloc w 48 k.cells).alloc (.cells vzero.cells.toArray 42))
  have R0 := Lib.hid (blk2 w (.cells k.cells.toArray 48) 42 vzero.cells)
  have B0 := Lib.hid (step_ (new_below w (.cells k.cells.toArray 48)) (new_below _ (.cells vzero.cells.toArray 42)))
  clear h hk
  go_enter Tryz.func35, Tryz.ntmps35
  go_wp2_with fail
  go_loopw [6] (fun i wr => ∃ j : Nat, j ≤ n ∧ i = .int .i64 j ∧ fnd (l.drop j) k = o ∧ Below w.heap.size w wr ∧ Blk wr w.heap.size 48 k.cells ∧ Blk wr (w.heap.size + 1) 42 vzero.cells) (fun i _ => n - (intOf i).toNat)
  case atStart => exact ⟨0, Nat.zero_le _, rfl, ho.out, B0.out, Q0.out, R0.out⟩
  case round =>
    obtain ⟨j, hj, rfl, hf, hb, hq, hr⟩ := hrel
    have HF := Lib.hid hf
    have BB := Lib.hid hb
    have QQ := Lib.hid hq
    have RR := Lib.hid hr
    clear hf hb hq hr
    by_cases hlt : j < n
    · obtain ⟨G, p, hE⟩ := (H.out.below BB.out).elem j hlt
      have E := Lib.hid hE
      have T := Lib.hid (drop_getD (l := l) (j := j) (by have := H.out.len; omega))
      obtain ⟨x, hx⟩ : ∃ x, l.getD j azero = x := ⟨_, rfl⟩
      rw [hx] at E T
      clear hE hx
      by_cases hkk : x.k = k
      · have HE := Lib.hid (show decide (x.k = k) = true from decide_eq_true hkk)
        have HO := Lib.hid (show o = some x.v by rw [← HF.out, T.out, fnd, if_pos hkk])
        clear hkk
        go_wp2_with fail
        refine region_later (by kernel_rfl) (by kernel_rfl) ?_
        go_big_quiet_step (fail)
        go_big_quiet_step (fail)
        (go_big_quiet_want; refine quiet_index _ _ rfl A n cap G p j x _ rfl rfl (by first | rfl | omega) E.out ?_; go_simp; go_big_quiet_on)
        go_big_quiet_step (fail)
        (go_big_quiet_want; refine quiet_load_kyx G p x.k _ rfl rfl (range_ak E.out.rg) E.out.blk E.out.ok.k.ml ?_; go_simp; go_big_quiet_on)
        (go_big_quiet_want; refine quiet_load_kyx w.heap.size 0 k _ rfl rfl QQ.out.range QQ.out.lt HK.out.ml ?_; go_simp; go_big_quiet_on)
        (go_big_quiet_want; refine quiet_eq_ky _ _ _ rfl x.k k true rfl rfl E.out.ok.k HK.out HE.out ?_; go_simp; go_big_quiet_on)
        refine wpQuiet_nil ?_
        intro w2 hw2
        have E2 := Lib.hid (E.out.below hw2)
        have R2 := Lib.hid (RR.out.below hw2)
        have B2 := Lib.hid (step_ BB.out hw2)
        clear hw2
        go_wp2_with (first
          | go_skip
          | refine wpList_index rfl _ _ rfl A n cap G p j x _ rfl rfl (by first | rfl | omega) E2.out ?_
          | refine wpList_load_vl rfl _ rfl G (p + 12) x.v rfl (range_av E2.out.rg E2.out.ok) E2.out.ok.v.tl ?_
          | (refine wpList_store_vl rfl _ _ rfl (w.heap.size + 1) vzero x.v rfl rfl R2.out rfl E2.out.ok.v.tl ?_; intro w3 N3 O3))
        refine bodyPost_ret (results_vlB rfl _ _ (w.heap.size + 1) x.v rfl N3.out E2.out.ok.v.tl) rfl ?_
        exact ⟨by rw [HO.out]; rfl, B2.out.trans (O3.out.below (Nat.le_succ _) B2.out.size)⟩
      · have HE := Lib.hid (show decide (x.k = k) = false from decide_eq_false hkk)
        have HO := Lib.hid (show fnd (l.drop (j + 1)) k = o by rw [← HF.out, T.out]; unfold fnd; rw [if_neg hkk]; cases l.drop (j + 1) <;> rfl)
        clear hkk
        go_wp2_with fail
        refine region_later (by kernel_rfl) (by kernel_rfl) ?_
        go_big_quiet_step (fail)
        go_big_quiet_step (fail)
        (go_big_quiet_want; refine quiet_index _ _ rfl A n cap G p j x _ rfl rfl (by first | rfl | omega) E.out ?_; go_simp; go_big_quiet_on)
        go_big_quiet_step (fail)
        (go_big_quiet_want; refine quiet_load_kyx G p x.k _ rfl rfl (range_ak E.out.rg) E.out.blk E.out.ok.k.ml ?_; go_simp; go_big_quiet_on)
        (go_big_quiet_want; refine quiet_load_kyx w.heap.size 0 k _ rfl rfl QQ.out.range QQ.out.lt HK.out.ml ?_; go_simp; go_big_quiet_on)
        (go_big_quiet_want; refine quiet_eq_ky _ _ _ rfl x.k k false rfl rfl E.out.ok.k HK.out HE.out ?_; go_simp; go_big_quiet_on)
        refine wpQuiet_nil ?_
        intro w2 hw2
        have Q2 := Lib.hid (QQ.out.below hw2)
        have R2 := Lib.hid (RR.out.below hw2)
        have B2 := Lib.hid (step_ BB.out hw2)
        clear hw2
        go_wp2_with fail
        go_roundw
        case rel => exact ⟨j + 1, by omega, by go_num, HO.out, B2.out, Q2.out, R2.out⟩
        case measure => simp [intOf]; omega
    · obtain rfl : j = n := by omega
      have HO := Lib.hid (show o = none by rw [← HF.out, List.drop_of_length_le (by have := H.out.len; omega)]; rfl)
      go_wp2_with (first
          | go_skip
          | refine wpList_build rfl 42 _ rfl [] rfl _ built30_0 ?_
          | (refine wpList_store_vl rfl _ _ rfl (w.heap.size + 1) vzero vzero rfl rfl RR.out rfl rfl ?_; intro w3 N3 O3))
      refine bodyPost_ret (results_vlB rfl _ _ (w.heap.size + 1) vzero rfl N3.out rfl) rfl ?_
      exact ⟨by rw [HO.out]; rfl, BB.out.trans (O3.out.below (Nat.le_succ _) BB.out.size)⟩
set_option maxRecDepth 100000 in
set_option maxHeartbeats 2000000 in
theorem rows_other (A A2 : Option Addr) (n m cap cap2 : Nat) (w : World) (hnm : (n : Int) ≠ (m : Int)) : Calls Tryz.prog 12 #[.slice A n cap, .slice A2 m cap2] w fun e w' => e = .returned (.bool false) ∧ Below w.heap.size w w' := by
  have hd : (((n : Int)) == (m : Int)) = false := beq_eq_false_iff_ne.2 hnm
  clear hnm
  go_enter Tryz.func12, Tryz.ntmps12
  go_wp2_with fail
  go_ret
  exact ⟨rfl, Below.refl _ _⟩
set_option maxRecDepth 100000 in
set_option maxHeartbeats 2000000 in
theorem rows_len (A A2 : Option Addr) (n cap cap2 : Nat) (l m : List Am) (b : Bool) (w : World) (h : RowV w A n cap l) (h2 : RowV w A2 n cap2 m) (hn : n ≤ 5000) (hb : Hid (decide (l = m) = b)) : Calls Tryz.prog 12 #[.slice A n cap, .slice A2 n cap2] w fun e w' => e = .returned (.bool b) ∧ Below w.heap.size w w' := by
  have H := Lib.hid h
  have J := Lib.hid h2
  clear h h2
  go_enter Tryz.func12, Tryz.ntmps12
  go_wp2_with fail
  go_loopw [5] (fun i wr => ∃ j : Nat, j ≤ n ∧ i = .int .i64 j ∧ decide (l.drop j = m.drop j) = b ∧ Below w.heap.size w wr) (fun i _ => n - (intOf i).toNat)
  case atStart => exact ⟨0, Nat.zero_le _, rfl, hb.out, Below.refl _ _⟩
  case round =>
    obtain ⟨j, hj, rfl, hf, hb⟩ := hrel
    have HF := Lib.hid hf
    have BB := Lib.hid hb
    clear hf hb
    by_cases hlt : j < n
    · obtain ⟨G, p, hE⟩ := (H.out.below BB.out).elem j hlt
      obtain ⟨G2, p2, hE2⟩ := (J.out.below BB.out).elem j hlt
      have E := Lib.hid hE
      have F := Lib.hid hE2
      have T := Lib.hid (drop_getD (l := l) (j := j) (by have := H.out.len; omega))
      have U := Lib.hid (drop_getD (l := m) (j := j) (by have := J.out.len; omega))
      obtain ⟨x, hx⟩ : ∃ x, l.getD j azero = x := ⟨_, rfl⟩
      obtain ⟨y, hy⟩ : ∃ y, m.getD j azero = y := ⟨_, rfl⟩
      rw [hx] at E T
      rw [hy] at F U
      clear hE hx hE2 hy
      by_cases hkk : x = y
      · have HE := Lib.hid (show (!decide (x = y)) = false by simp [hkk])
        have HO := Lib.hid (show decide (l.drop (j + 1) = m.drop (j + 1)) = b by rw [← HF.out, T.out, U.out, hkk]; simp)
        clear hkk
        go_wp2_with fail
        refine region_later (by kernel_rfl) (by kernel_rfl) ?_
        go_big_quiet_step (fail)
        go_big_quiet_step (fail)
        (go_big_quiet_want; refine quiet_index _ _ rfl A n cap G p j x _ rfl rfl (by first | rfl | omega) E.out ?_; go_simp; go_big_quiet_on)
        (go_big_quiet_want; refine quiet_load_amx G p x _ rfl rfl E.out.rg E.out.blk E.out.ok ?_; go_simp; go_big_quiet_on)
        go_big_quiet_step (fail)
        go_big_quiet_step (fail)
        (go_big_quiet_want; refine quiet_index _ _ rfl A2 n cap2 G2 p2 j y _ rfl rfl (by first | rfl | omega) F.out ?_; go_simp; go_big_quiet_on)
        (go_big_quiet_want; refine quiet_load_amx G2 p2 y _ rfl rfl F.out.rg F.out.blk F.out.ok ?_; go_simp; go_big_quiet_on)
        (go_big_quiet_want; refine quiet_neq_am _ _ _ rfl x y false rfl rfl E.out.ok F.out.ok HE.out ?_; go_simp; go_big_quiet_on)
        refine wpQuiet_nil ?_
        intro w2 hw2
        have B2 := Lib.hid (step_ BB.out hw2)
        clear hw2
        go_wp2_with fail
        go_roundw
        case rel => exact ⟨j + 1, by omega, by go_num, HO.out, B2.out⟩
        case measure => simp [intOf]; omega
      · have HE := Lib.hid (show (!decide (x = y)) = true by simp [hkk])
        have HO := Lib.hid (show b = false by rw [← HF.out, T.out, U.out]; simp [hkk])
        clear hkk
        go_wp2_with fail
        refine region_later (by kernel_rfl) (by kernel_rfl) ?_
        go_big_quiet_step (fail)
        go_big_quiet_step (fail)
        (go_big_quiet_want; refine quiet_index _ _ rfl A n cap G p j x _ rfl rfl (by first | rfl | omega) E.out ?_; go_simp; go_big_quiet_on)
        (go_big_quiet_want; refine quiet_load_amx G p x _ rfl rfl E.out.rg E.out.blk E.out.ok ?_; go_simp; go_big_quiet_on)
        go_big_quiet_step (fail)
        go_big_quiet_step (fail)
        (go_big_quiet_want; refine quiet_index _ _ rfl A2 n cap2 G2 p2 j y _ rfl rfl (by first | rfl | omega) F.out ?_; go_simp; go_big_quiet_on)
        (go_big_quiet_want; refine quiet_load_amx G2 p2 y _ rfl rfl F.out.rg F.out.blk F.out.ok ?_; go_simp; go_big_quiet_on)
        (go_big_quiet_want; refine quiet_neq_am _ _ _ rfl x y true rfl rfl E.out.ok F.out.ok HE.out ?_; go_simp; go_big_quiet_on)
        refine wpQuiet_nil ?_
        intro w2 hw2
        have B2 := Lib.hid (step_ BB.out hw2)
        clear hw2
        go_wp2_with fail
        go_ret
        exact ⟨ret_bool HO.out.symm, B2.out⟩
    · obtain rfl : j = n := by omega
      have HO := Lib.hid (show b = true by rw [← HF.out, List.drop_of_length_le (by have := H.out.len; omega), List.drop_of_length_le (by have := J.out.len; omega)]; rfl)
      go_wp2_with fail
      go_ret
      exact ⟨ret_bool HO.out.symm, BB.out⟩
theorem rows_is (A A2 : Option Addr) (n m cap cap2 : Nat) (l k : List Am) (b : Bool) (w : World) (h : RowV w A n cap l) (h2 : RowV w A2 m cap2 k) (hn : n ≤ 5000) (hb : Hid (decide (l = k) = b)) : Calls Tryz.prog 12 #[.slice A n cap, .slice A2 m cap2] w fun e w' => e = .returned (.bool b) ∧ Below w.heap.size w w' := by
  by_cases e : n = m
  · subst e
    exact rows_len A A2 n cap cap2 l k b w h h2 hn hb
  · have hf : b = false := by
      rw [← hb.out]
      refine decide_eq_false (fun e2 => e ?_)
      rw [← h.len, ← h2.len, e2]
    rw [hf]
    exact rows_other A A2 n m cap cap2 w (by omega)
end Go.Proofs.YtnpbmihbmilkbaaGreat
namespace Go.Proofs.YtnpbmihbmilkbaaGreat
open Go.RowKit
set_option maxRecDepth 100000 in
set_option maxHeartbeats 2000000 in
theorem refFind_is (A : Option Addr) (n cap : Nat) (l : List Am) (k : Ky) (o : Option Vl) (w : World) (h : RowV w A n cap l) (hk : k.Ok) (hn : n ≤ 1000) (ho : Hid (gt l k = o)) : Calls Tryz.prog 22 #[.slice A n cap, .agg k.cells.toArray] w (GivesV w o) := by
  have hz := zero30
  have HO := Lib.hid (show fnd (norm l) k = o by rw [fnd_norm h.ok]; exact ho.out)
  have OV := Lib.hid (show (o.getD vzero).Ok from getD_ok (ho.out ▸ (gt_ok h.ok).o k))
  have H := Lib.hid h
  have HK := Lib.hid hk
  have Q0 := Lib.hid ((blk_alloc w 48 k.cells).alloc (.cells vzero.cells.toArray 42))
  have Z0 := Lib.hid (blk2 w (.cells k.cells.toArray 48) 42 vzero.cells)
  have B0 := Lib.hid (step_ (new_below w (.cells k.cells.toArray 48)) (new_below _ (.cells vzero.cells.toArray 42)))
  clear h hk ho
  go_enter Tryz.func22, Tryz.ntmps22
  go_wp2_with fail
  obtain ⟨V, hV⟩ : ∃ V, (w.alloc (.cells k.cells.toArray 48)).alloc (.cells vzero.cells.toArray 42) = V := ⟨_, rfl⟩
  rw [hV] at Q0 Z0 B0 ⊢
  clear hV
  have S1 := Lib.hid (show Below w.heap.size w V.drew ∧ Blk V.drew w.heap.size 48 k.cells from ⟨below_drew B0.out, Q0.out.drew⟩)
  have Z1 := Lib.hid Z0.out.drew
  refine wp_region_noPanic ?_
  refine wp_region_held_drew (S := fun W => Below w.heap.size w W ∧ Blk W w.heap.size 48 k.cells) (by kernel_rfl) S1.out (fun _ => ?_)
  refine tkm 0 rfl S1.out ?_; try simp only [Act.put, stA, stZ, stS]
  refine tky 2 (.agg k.cells.toArray) rfl (yieldsIf_load_mid (by rfl) 48 (.tmp 3) rfl w.heap.size 0 rfl k.cells _ (fun W hW => hW.2.range) Tryz.underlying48 rfl (size27 HK.out.ml)) S1.out ?_; try simp only [Act.put, stA, stZ, stS]
  refine rdy [1] ?_
  refine AllReadyH.cons (arR rfl) (fun K hK => ?_) AllReadyH.nil
  go_simp
  refine (refNorm_is A n cap l _ (H.out.below S1.out.1) hn).mono ?_
  rintro e w1 ⟨⟨A1, n1, c1, rfl, r1⟩, b1⟩
  have S2 := Lib.hid (show Below w.heap.size w w1 ∧ Blk w1 w.heap.size 48 k.cells from ⟨step_ S1.out.1 b1, S1.out.2.below b1⟩)
  have Z2 := Lib.hid (Z1.out.below b1)
  have R1 := Lib.hid r1
  have N1 := Lib.hid (show n1 ≤ 5000 by have := norm_len l; rw [R1.out.len, H.out.len] at this; omega)
  clear b1 r1
  go_wp2_with fail
  refine hK.out _ _ ?_ (fun _ => ?_)
  · exact S2.out
  clear hK K
  try simp only [Act.put, stA, stZ, stS]
  refine rdy [3] ?_
  refine AllReadyH.cons (arR rfl) (fun K hK => ?_) AllReadyH.nil
  go_simp
  refine (find_is A1 n1 c1 (norm l) k o _ R1.out HK.out N1.out HO).mono ?_
  rintro e w2 ⟨rfl, b2⟩
  have S3 := Lib.hid (show Below w.heap.size w w2 ∧ Blk w2 w.heap.size 48 k.cells from ⟨step_ S2.out.1 b2, S2.out.2.below b2⟩)
  have Z3 := Lib.hid (Z2.out.below b2)
  clear b2
  go_wp2_with fail
  refine hK.out _ _ ?_ (fun _ => ?_)
  · exact S3.out
  clear hK K
  try simp only [Act.put, stA, stZ, stS]
  refine tkm 4 rfl S3.out ?_; try simp only [Act.put, stA, stZ, stS]
  refine tkm 5 rfl S3.out ?_; try simp only [Act.put, stA, stZ, stS]
  refine rdy [6] ?_
  refine ready_store_vl (arR rfl) rfl _ _ rfl (w.heap.size + 1) vzero (o.getD vzero) rfl rfl Z3.out rfl OV.out.tl (fun w3 N3 O3 => ?_) AllReadyH.nil
  have S4 := Lib.hid (show Below w.heap.size w w3 ∧ Blk w3 w.heap.size 48 k.cells from ⟨S3.out.1.trans (O3.below (Nat.le_succ _) S3.out.1.size), S3.out.2.only O3 (by omega)⟩)
  refine ⟨S4.out, ?_⟩
  simp only [Act.put]
  refine tkm 7 rfl S4.out ?_; try simp only [Act.put, stA, stZ, stS]
  refine wpAnyH_done (by kernel_rfl) ?_ _
  refine NoPanic.normal ?_
  go_wp2_with fail
  refine bodyPost_ret (results_vlB rfl _ _ (w.heap.size + 1) (o.getD vzero) rfl N3 OV.out.tl) rfl ?_
  exact ⟨rfl, S4.out.1⟩
end Go.Proofs.YtnpbmihbmilkbaaGreat
namespace Go.Proofs.YtnpbmihbmilkbaaGreat
open Go.RowKit
end Go.Proofs.YtnpbmihbmilkbaaGreat
namespace Go.Proofs.YtnpbmihbmilkbaaGreat
open Go.RowKit
theorem drop_getDG {α : Type} (z : α) {l : List α} {j : Nat} (h : j < l.length) : l.drop j = l.getD j z :: l.drop (j + 1) := by
  rw [List.drop_eq_getElem_cons h]; simp [List.getD, List.getElem?_eq_getElem h]
end Go.Proofs.YtnpbmihbmilkbaaGreat
namespace Go.Proofs.YtnpbmihbmilkbaaGreat
open Go.RowKit Go.Shelf
attribute [local go_sem] Oper.semAt_some
set_option maxRecDepth 100000 in
theorem numsame_other (A A2 : Option Addr) (n m cap cap2 : Nat) (w : World) (hnm : (n : Int) ≠ (m : Int)) : Calls Tryz.prog 8 #[.slice A n cap, .slice A2 m cap2] w fun e w' => e = .returned (.bool false) ∧ Below w.heap.size w w' := by
  have hd : (((n : Int)) == (m : Int)) = false := beq_eq_false_iff_ne.2 hnm
  clear hnm
  go_enter Tryz.func8, Tryz.ntmps8
  go_wp2_with fail
  go_ret
  exact ⟨rfl, Below.refl _ _⟩
set_option maxRecDepth 100000 in
set_option maxHeartbeats 2000000 in
theorem numsame_len (A A2 : Option Addr) (n cap cap2 : Nat) (l m : List Int) (b : Bool) (w : World) (h : NumsAt w (.slice A n cap) l) (h2 : NumsAt w (.slice A2 n cap2) m) (hn : n ≤ 5000) (hb : Hid (decide (l = m) = b)) : Calls Tryz.prog 8 #[.slice A n cap, .slice A2 n cap2] w fun e w' => e = .returned (.bool b) ∧ Below w.heap.size w w' := by
  have H := Lib.hid h
  have J := Lib.hid h2
  have HL := Lib.hid h.len
  have JL := Lib.hid h2.len
  clear h h2
  go_enter Tryz.func8, Tryz.ntmps8
  go_wp2_with fail
  go_loopw [5] (fun i wr => ∃ j : Nat, j ≤ n ∧ i = .int .i64 j ∧ decide (l.drop j = m.drop j) = b ∧ Below w.heap.size w wr) (fun i _ => n - (intOf i).toNat)
  case atStart => exact ⟨0, Nat.zero_le _, rfl, hb.out, Below.refl _ _⟩
  case round =>
    obtain ⟨j, hj, rfl, hf, hb⟩ := hrel
    have HF := Lib.hid hf
    have BB := Lib.hid hb
    clear hf hb
    by_cases hlt : j < n
    · obtain ⟨G, p, hE, hEc, -⟩ := (H.out.below BB.out).elem j (by have := HL.out; omega)
      obtain ⟨G2, p2, hE2, hEc2, -⟩ := (J.out.below BB.out).elem j (by have := JL.out; omega)
      have E := Lib.hid hE
      have F := Lib.hid hE2
      have EC := Lib.hid hEc
      have FC := Lib.hid hEc2
      have T := Lib.hid (drop_getDG 0 (l := l) (j := j) (by have := HL.out; omega))
      have U := Lib.hid (drop_getDG 0 (l := m) (j := j) (by have := JL.out; omega))
      obtain ⟨x, hx⟩ : ∃ x, l.getD j 0 = x := ⟨_, rfl⟩
      obtain ⟨y, hy⟩ : ∃ y, m.getD j 0 = y := ⟨_, rfl⟩
      rw [hx] at EC T
      rw [hy] at FC U
      clear hE hx hE2 hy hEc hEc2
      by_cases hkk : x = y
      · have bE : (x != y) = false := by simp [hkk]
        have HO := Lib.hid (show decide (l.drop (j + 1) = m.drop (j + 1)) = b by rw [← HF.out, T.out, U.out, hkk]; simp)
        go_wp2_with fail
        refine region_later (by kernel_rfl) (by kernel_rfl) ?_
        go_big_quiet_step (fail)
        go_big_quiet_step (fail)
        (go_big_quiet_want; refine quiet_val _ (fun _ => exec_indexN Tryz.underlying24 _ _ rfl A n cap G p j _ rfl rfl (by first | rfl | omega) E.out) ?_; go_simp; go_big_quiet_on)
        (go_big_quiet_want; refine quiet_load_i Tryz.underlying22 G p x _ rfl rfl EC.out ?_; go_simp; go_big_quiet_on)
        go_big_quiet_step (fail)
        go_big_quiet_step (fail)
        (go_big_quiet_want; refine quiet_val _ (fun _ => exec_indexN Tryz.underlying24 _ _ rfl A2 n cap2 G2 p2 j _ rfl rfl (by first | rfl | omega) F.out) ?_; go_simp; go_big_quiet_on)
        (go_big_quiet_want; refine quiet_load_i Tryz.underlying22 G2 p2 y _ rfl rfl FC.out ?_; go_simp; go_big_quiet_on)
        go_big_quiet_step (fail)
        refine wpQuiet_nil ?_
        intro w2 hw2
        have B2 := Lib.hid (step_ BB.out hw2)
        clear hw2
        go_wp2_with fail
        go_roundw
        case rel => exact ⟨j + 1, by omega, by go_num, HO.out, B2.out⟩
        case measure => simp [intOf]; omega
      · have bE : (x != y) = true := by simp [hkk]
        have HO := Lib.hid (show b = false by rw [← HF.out, T.out, U.out]; simp [hkk])
        go_wp2_with fail
        refine region_later (by kernel_rfl) (by kernel_rfl) ?_
        go_big_quiet_step (fail)
        go_big_quiet_step (fail)
        (go_big_quiet_want; refine quiet_val _ (fun _ => exec_indexN Tryz.underlying24 _ _ rfl A n cap G p j _ rfl rfl (by first | rfl | omega) E.out) ?_; go_simp; go_big_quiet_on)
        (go_big_quiet_want; refine quiet_load_i Tryz.underlying22 G p x _ rfl rfl EC.out ?_; go_simp; go_big_quiet_on)
        go_big_quiet_step (fail)
        go_big_quiet_step (fail)
        (go_big_quiet_want; refine quiet_val _ (fun _ => exec_indexN Tryz.underlying24 _ _ rfl A2 n cap2 G2 p2 j _ rfl rfl (by first | rfl | omega) F.out) ?_; go_simp; go_big_quiet_on)
        (go_big_quiet_want; refine quiet_load_i Tryz.underlying22 G2 p2 y _ rfl rfl FC.out ?_; go_simp; go_big_quiet_on)
        go_big_quiet_step (fail)
        refine wpQuiet_nil ?_
        intro w2 hw2
        have B2 := Lib.hid (step_ BB.out hw2)
        clear hw2
        go_wp2_with fail
        go_ret
        exact ⟨ret_bool HO.out.symm, B2.out⟩
    · obtain rfl : j = n := by omega
      have HO := Lib.hid (show b = true by rw [← HF.out, List.drop_of_length_le (by have := HL.out; omega), List.drop_of_length_le (by have := JL.out; omega)]; rfl)
      go_wp2_with fail
      go_ret
      exact ⟨ret_bool HO.out.symm, BB.out⟩
theorem numsame_is (v u : Value) (l k : List Int) (b : Bool) (w : World) (h : NumsAt w v l) (h2 : NumsAt w u k) (hn : l.length ≤ 5000) (hb : Hid (decide (l = k) = b)) : Calls Tryz.prog 8 #[v, u] w fun e w' => e = .returned (.bool b) ∧ Below w.heap.size w w' := by
  obtain ⟨A, cap, rfl⟩ := h.shape
  obtain ⟨A2, cap2, rfl⟩ := h2.shape
  by_cases e : l.length = k.length
  · rw [← e]
    rw [← e] at h2
    exact numsame_len A A2 l.length cap cap2 l k b w h h2 hn hb
  · have hf : b = false := by
      rw [← hb.out]
      exact decide_eq_false (fun e2 => e (by rw [e2]))
    rw [hf]
    exact numsame_other A A2 l.length k.length cap cap2 w (by omega)
theorem has_is (A : Option Addr) (n cap : Nat) (l : List Int) (x : Int) (b : Bool) (w : World) (h : NumsAt w (.slice A n cap) l) (hn : n ≤ 5000) (hb : Hid (l.contains x = b)) : Calls Tryz.prog 28 #[.slice A n cap, .int .u64 x] w fun e w' => e = .returned (.bool b) ∧ w = w' := by
  have H := Lib.hid h
  have HL := Lib.hid h.len
  clear h
  go_enter Tryz.func28, Tryz.ntmps28
  go_wp2_with fail
  go_loopw [5] (fun i wr => ∃ j : Nat, j ≤ n ∧ i = .int .i64 j ∧ (l.drop j).contains x = b ∧ w = wr) (fun i _ => n - (intOf i).toNat)
  case atStart => exact ⟨0, Nat.zero_le _, rfl, hb.out, rfl⟩
  case round =>
    obtain ⟨j, hj, rfl, hf, rfl⟩ := hrel
    have HF := Lib.hid hf
    clear hf
    by_cases hlt : j < n
    · obtain ⟨G, p, hE, hEc, -⟩ := H.out.elem j (by have := HL.out; omega)
      have E := Lib.hid hE
      have T := Lib.hid (drop_getDG 0 (l := l) (j := j) (by have := HL.out; omega))
      obtain ⟨y, hy⟩ : ∃ y, l.getD j 0 = y := ⟨_, rfl⟩
      rw [hy] at hEc T
      clear hE hy
      by_cases hkk : y = x
      · have bE : (y == x) = true := by simp [hkk]
        have HO := Lib.hid (show b = true by rw [← HF.out, T.out, hkk]; simp)
        go_wp2_with (refine wpList_indexN Tryz.underlying24 rfl _ _ rfl A n cap G p j _ rfl rfl (by first | rfl | omega) E.out ?_)
        go_ret
        exact ⟨ret_bool HO.out.symm, rfl⟩
      · have bE : (y == x) = false := by simp [hkk]
        have HO := Lib.hid (show (l.drop (j + 1)).contains x = b by rw [← HF.out, T.out, List.contains_cons, show (x == y) = false by simpa using fun e => hkk e.symm]; rfl)
        go_wp2_with (refine wpList_indexN Tryz.underlying24 rfl _ _ rfl A n cap G p j _ rfl rfl (by first | rfl | omega) E.out ?_)
        go_roundw
        case rel => exact ⟨j + 1, by omega, by go_num, HO.out, by trivial⟩
        case measure => simp [intOf]; omega
    · obtain rfl : j = n := by omega
      have HO := Lib.hid (show b = false by rw [← HF.out, List.drop_of_length_le (by have := HL.out; omega)]; rfl)
      go_wp2_with fail
      go_ret
      exact ⟨ret_bool HO.out.symm, rfl⟩
def GivesU (w : World) (l : List Int) (e : Ending) (w' : World) : Prop := (∃ A cap, e = .returned (.slice A l.length cap) ∧ NumsAt w' (.slice A l.length cap) l) ∧ Below w.heap.size w w'
theorem asc_drop {l : List Int} (h : Asc l) (j : Nat) : Asc (l.drop j) := h.sublist (List.drop_sublist j l)
set_option maxRecDepth 100000 in
set_option maxHeartbeats 4000000 in
theorem nput_is (A : Option Addr) (n cap : Nat) (l : List Int) (x : Int) (w : World) (h : NumsAt w (.slice A n cap) l) (ha : Asc l) (hx : 0 ≤ x ∧ x < 18446744073709551616) (hn : n ≤ 5000) : Calls Tryz.prog 30 #[.slice A n cap, .int .u64 x] w (GivesU w (put1 x l)) := by
  have H := Lib.hid h
  have HL := Lib.hid h.len
  have NL := Lib.hid h.nums
  have HA := Lib.hid ha
  have HX := Lib.hid hx
  clear h ha hx
  go_enter Tryz.func30, Tryz.ntmps30
  go_wp2_with fail
  go_loopw [5, 6, 7] (fun o d i wr => ∃ (j : Nat) (b : Bool) (acc : List Int), j ≤ n ∧ i = .int .i64 j ∧ d = .bool b ∧ OwnN wr w.heap.size o acc ∧ Below w.heap.size w wr ∧ acc ++ (if b = true then l.drop j else put1 x (l.drop j)) = put1 x l ∧ (b = true → ∀ y ∈ l.drop j, x < y) ∧ acc.length ≤ j + b.toNat) (fun _ _ i _ => n - (intOf i).toNat)
  case atStart => exact ⟨0, false, [], Nat.zero_le _, rfl, rfl, ownN_nil _ _, Below.refl _ _, rfl, fun e => (by cases e), by simp⟩
  case round =>
    obtain ⟨j, b, acc, hj, rfl, rfl, ho, hb, he, hd, hlen⟩ := hrel
    have OO := Lib.hid ho
    have BB := Lib.hid hb
    have HE := Lib.hid he
    have HD := Lib.hid hd
    have HN := Lib.hid hlen
    clear ho hb he hd hlen
    by_cases hlt : j < n
    · obtain ⟨G, p, hE, hEc, -⟩ := (H.out.below BB.out).elem j (by have := HL.out; omega)
      have E := Lib.hid hE
      have T := Lib.hid (drop_getDG 0 (l := l) (j := j) (by have := HL.out; omega))
      have NY := Lib.hid (NL.out.at_ j)
      have hC7 := Lib.hid (show ∀ w7, Below w.heap.size w w7 → w7.cell? ⟨G, p, none⟩ = some (.int .u64 (l.getD j 0)) from fun w7 hb7 => by
        obtain ⟨G', p', hE', hEc', -⟩ := (H.out.below hb7).elem j (by have := HL.out; omega)
        obtain ⟨off, ha, hp⟩ := hE.ad
        obtain ⟨off', ha', hp'⟩ := hE'.ad
        rw [ha] at ha'
        cases ha'
        rw [hp, ← hp']
        exact hEc')
      obtain ⟨y, hy⟩ : ∃ y, l.getD j 0 = y := ⟨_, rfl⟩
      rw [hy] at hEc T NY hC7
      clear hE hy
      by_cases hkk : y = x
      · subst hkk
        have hb0 : b = false := by
          cases b
          · rfl
          · have := HD.out rfl y (by rw [T.out]; exact List.mem_cons_self ..)
            omega
        subst hb0
        have bE : (y == y) = true := by simp
        have HO := Lib.hid (show put1 y l = l from put1_has HA.out (List.mem_of_mem_drop (by rw [T.out]; exact List.mem_cons_self ..)))
        go_wp2_with (refine wpList_indexN Tryz.underlying24 rfl _ _ rfl A n cap G p j _ rfl rfl (by first | rfl | omega) E.out ?_)
        go_ret
        refine ⟨⟨A, cap, ?_, ?_⟩, BB.out⟩
        · rw [HO.out, ← HL.out]; rfl
        · rw [HO.out, ← HL.out]; exact H.out.below BB.out
      · have bE : (y == x) = false := by simp [hkk]
        have DN := Lib.hid (show acc.length ≤ 10000 by have := HN.out; have := Bool.toNat_le b; omega)
        cases b with
        | true =>
          have SN := Lib.hid (show (acc ++ [y]) ++ (if true = true then l.drop (j + 1) else put1 x (l.drop (j + 1))) = put1 x l by rw [if_pos rfl, ← HE.out, if_pos rfl, T.out]; simp)
          have TN := Lib.hid (show true = true → ∀ z ∈ l.drop (j + 1), x < z from fun _ z hz => HD.out rfl z (by rw [T.out]; exact List.mem_cons_of_mem _ hz))
          go_wp2_with (first
            | (refine wpList_indexN Tryz.underlying24 rfl _ _ rfl A n cap G p j _ rfl rfl (by first | rfl | omega) E.out ?_)
            | (refine wpList_num1 Tryz.underlying24 rfl _ rfl y rfl NY.out ?_; intro g6 w6 e6 N6 B6)
            | (obtain ⟨A0, c0, rfl⟩ := OO.out.shape; refine wpList_app_n Tryz.underlying24 rfl _ _ rfl w.heap.size _ (.slice (some ⟨g6, 0, none⟩) 1 1) acc [y] rfl rfl (OO.out.below B6.out) N6.out (by have := DN.out; simp; omega) (Nat.le_trans BB.out.size B6.out.size) ?_; intro D7 m7 c7 w7 e7 O7 B7 G7))
          go_roundw
          case rel => exact ⟨j + 1, true, acc ++ [y], by omega, by go_num, rfl, O7.out, (BB.out.trans (B6.out.mono BB.out.size)).trans B7.out, SN.out, TN.out, by have := HN.out; simp at this ⊢; omega⟩
          case measure => simp [intOf]; omega
        | false =>
          by_cases hxy : x < y
          · have bX : decide (x < y) = true := decide_eq_true hxy
            have SN := Lib.hid (show ((acc ++ [x]) ++ [y]) ++ (if true = true then l.drop (j + 1) else put1 x (l.drop (j + 1))) = put1 x l by
              rw [if_pos rfl, ← HE.out, if_neg Bool.false_ne_true, T.out]
              show _ = acc ++ (if y = x then _ else if x < y then x :: y :: l.drop (j + 1) else _)
              rw [if_neg hkk, if_pos hxy]; simp)
            have TN := Lib.hid (show true = true → ∀ z ∈ l.drop (j + 1), x < z from fun _ z hz => by
              have q := asc_drop HA.out j
              rw [T.out] at q
              have := (List.pairwise_cons.1 q).1 z hz
              omega)
            go_wp2_with (first
              | (refine wpList_indexN Tryz.underlying24 rfl _ _ rfl A n cap G p j _ rfl rfl (by first | rfl | omega) E.out ?_)
              | (refine wanted_on rfl ?_; refine wpList_indexN Tryz.underlying24 rfl _ _ rfl A n cap G p j _ rfl rfl (by first | rfl | omega) E.out ?_)
              | (refine wpList_num1 Tryz.underlying24 rfl _ rfl x rfl HX.out ?_; intro g6 w6 e6 N6 B6)
              | (obtain ⟨A0, c0, rfl⟩ := OO.out.shape; refine wpList_app_n Tryz.underlying24 rfl _ _ rfl w.heap.size _ (.slice (some ⟨g6, 0, none⟩) 1 1) acc [x] rfl rfl (OO.out.below B6.out) N6.out (by have := DN.out; simp; omega) (Nat.le_trans BB.out.size B6.out.size) ?_; intro D7 m7 c7 w7 e7 O7 B7 G7; have B67 := Lib.hid ((BB.out.trans (B6.out.mono BB.out.size)).trans B7.out); have hEc := (Lib.hid (show w7.cell? ⟨G, p, none⟩ = some (.int .u64 y) from hC7.out w7 B67.out)).out)
              | (refine wpList_num1 Tryz.underlying24 rfl _ rfl y rfl NY.out ?_; intro g8 w8 e8 N8 B8)
              | (refine wpList_app_n Tryz.underlying24 rfl _ _ rfl w.heap.size _ (.slice (some ⟨g8, 0, none⟩) 1 1) (acc ++ [x]) [y] rfl rfl (O7.out.below B8.out) N8.out (by have := DN.out; simp; omega) (Nat.le_trans B67.out.size B8.out.size) ?_; intro D9 m9 c9 w9 e9 O9 B9 G9))
            go_roundw
            case rel => exact ⟨j + 1, true, (acc ++ [x]) ++ [y], by omega, by go_num, rfl, O9.out, (B67.out.trans (B8.out.mono B67.out.size)).trans B9.out, SN.out, TN.out, by have := HN.out; simp at this ⊢; omega⟩
            case measure => simp [intOf]; omega
          · have bX : decide (x < y) = false := decide_eq_false hxy
            have SN := Lib.hid (show (acc ++ [y]) ++ (if false = true then l.drop (j + 1) else put1 x (l.drop (j + 1))) = put1 x l by
              rw [if_neg Bool.false_ne_true, ← HE.out, if_neg Bool.false_ne_true, T.out]
              show _ = acc ++ (if y = x then _ else if x < y then _ else y :: put1 x (l.drop (j + 1)))
              rw [if_neg hkk, if_neg hxy]; simp)
            have TN := Lib.hid (show false = true → ∀ z ∈ l.drop (j + 1), x < z from fun e => by cases e)
            go_wp2_with (first
              | (refine wpList_indexN Tryz.underlying24 rfl _ _ rfl A n cap G p j _ rfl rfl (by first | rfl | omega) E.out ?_)
              | (refine wanted_on rfl ?_; refine wpList_indexN Tryz.underlying24 rfl _ _ rfl A n cap G p j _ rfl rfl (by first | rfl | omega) E.out ?_)
              | (refine wpList_num1 Tryz.underlying24 rfl _ rfl y rfl NY.out ?_; intro g6 w6 e6 N6 B6)
              | (obtain ⟨A0, c0, rfl⟩ := OO.out.shape; refine wpList_app_n Tryz.underlying24 rfl _ _ rfl w.heap.size _ (.slice (some ⟨g6, 0, none⟩) 1 1) acc [y] rfl rfl (OO.out.below B6.out) N6.out (by have := DN.out; simp; omega) (Nat.le_trans BB.out.size B6.out.size) ?_; intro D7 m7 c7 w7 e7 O7 B7 G7))
            go_roundw
            case rel => exact ⟨j + 1, false, acc ++ [y], by omega, by go_num, rfl, O7.out, (BB.out.trans (B6.out.mono BB.out.size)).trans B7.out, SN.out, TN.out, by have := HN.out; simp at this ⊢; omega⟩
            case measure => simp [intOf]; omega
    · obtain rfl : j = n := by omega
      have DN := Lib.hid (show acc.length ≤ 10000 by have := HN.out; have := Bool.toNat_le b; omega)
      have HZ := Lib.hid (show l.drop j = [] from List.drop_of_length_le (by have := HL.out; omega))
      cases b with
      | true =>
        have HO := Lib.hid (show put1 x l = acc by rw [← HE.out, if_pos rfl, HZ.out, List.append_nil])
        go_wp2_with fail
        go_ret
        rw [HO.out]
        obtain ⟨A0, c0, rfl⟩ := OO.out.shape
        exact ⟨⟨A0, c0, rfl, OO.out.at_⟩, BB.out⟩
      | false =>
        have HO := Lib.hid (show put1 x l = acc ++ [x] by rw [← HE.out, if_neg Bool.false_ne_true, HZ.out]; rfl)
        go_wp2_with (first
          | (refine wpList_num1 Tryz.underlying24 rfl _ rfl x rfl HX.out ?_; intro g6 w6 e6 N6 B6)
          | (obtain ⟨A0, c0, rfl⟩ := OO.out.shape; refine wpList_app_n Tryz.underlying24 rfl _ _ rfl w.heap.size _ (.slice (some ⟨g6, 0, none⟩) 1 1) acc [x] rfl rfl (OO.out.below B6.out) N6.out (by have := DN.out; simp; omega) (Nat.le_trans BB.out.size B6.out.size) ?_; intro D7 m7 c7 w7 e7 O7 B7 G7))
        go_ret
        have hs := O7.out.at_.len
        subst hs
        rw [HO.out]
        exact ⟨⟨D7, c7, rfl, O7.out.at_⟩, (BB.out.trans (B6.out.mono BB.out.size)).trans B7.out⟩
end Go.Proofs.YtnpbmihbmilkbaaGreat
