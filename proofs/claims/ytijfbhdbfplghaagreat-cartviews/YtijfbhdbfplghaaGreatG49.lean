/- slices.Equal at lines, and Same and some of package cart. -/
import Derived.Test.YtijfbhdbfplghaaGreatG48
import Derived.Test.YtijfbhdbfplghaaGreatG28
import Derived.Test.YtijfbhdbfplghaaGreatG29
namespace Go.Proofs.YtijfbhdbfplghaaGreat
open Go.RowKit Go.Shelf
attribute [local go_sem] Oper.semAt_some
set_option maxRecDepth 100000 in
theorem eqL_other (A A2 : Option Addr) (n m cap cap2 : Nat) (w : World) (hnm : (n : Int) ≠ (m : Int)) : Calls Tryz.prog 41 #[.slice A n cap, .slice A2 m cap2] w fun e w' => e = .returned (.bool false) ∧ Below w.heap.size w w' := by
  have hd : (((n : Int)) == (m : Int)) = false := beq_eq_false_iff_ne.2 hnm
  clear hnm
  go_enter Tryz.func41, Tryz.ntmps41
  go_wp2_with fail
  go_ret
  exact ⟨rfl, Below.refl _ _⟩
set_option maxRecDepth 100000 in
set_option maxHeartbeats 2000000 in
theorem eqL_len (A A2 : Option Addr) (n cap cap2 : Nat) (l m : List (List Int × Int)) (b : Bool) (w : World) (h : RowG EL w A n cap l) (h2 : RowG EL w A2 n cap2 m) (hn : n ≤ 5000) (hb : Hid (decide (l = m) = b)) : Calls Tryz.prog 41 #[.slice A n cap, .slice A2 n cap2] w fun e w' => e = .returned (.bool b) ∧ Below w.heap.size w w' := by
  have H := Lib.hid h
  have J := Lib.hid h2
  clear h h2
  go_enter Tryz.func41, Tryz.ntmps41
  go_wp2_with fail
  go_loopw [13, 5] (fun i u wr => ∃ j : Nat, j ≤ n ∧ i = .int .i64 j ∧ decide (l.drop j = m.drop j) = b ∧ Below w.heap.size w wr) (fun i _ _ => n - (intOf i).toNat)
  case atStart => exact ⟨0, Nat.zero_le _, rfl, hb.out, Below.refl _ _⟩
  case round =>
    obtain ⟨j, hj, rfl, hf, hb⟩ := hrel
    have HF := Lib.hid hf
    have BB := Lib.hid hb
    clear hf hb
    by_cases hlt : j < n
    · obtain ⟨G, p, hE⟩ := (H.out.below BB.out).elem lz j hlt
      obtain ⟨G2, p2, hE2⟩ := (J.out.below BB.out).elem lz j hlt
      have E := Lib.hid hE
      have F := Lib.hid hE2
      have T := Lib.hid (drop_getDG lz (l := l) (j := j) (by have := H.out.len; omega))
      have U := Lib.hid (drop_getDG lz (l := m) (j := j) (by have := J.out.len; omega))
      obtain ⟨x, hx⟩ : ∃ x, l.getD j lz = x := ⟨_, rfl⟩
      obtain ⟨y, hy⟩ : ∃ y, m.getD j lz = y := ⟨_, rfl⟩
      rw [hx] at E T
      rw [hy] at F U
      clear hE hx hE2 hy
      by_cases hkk : x = y
      · have HE := Lib.hid (show (!decide (x = y)) = false by simp [hkk])
        have HO := Lib.hid (show decide (l.drop (j + 1) = m.drop (j + 1)) = b by rw [← HF.out, T.out, U.out, hkk]; simp)
        clear hkk
        go_wp2_with (first
          | go_skip
          | (refine wpList_val rfl _ (exec_lt _ _ rfl (j : Int) (n : Int) true rfl rfl (decide_eq_true (by omega))) ?_))
        refine region_later (by kernel_rfl) (by kernel_rfl) ?_
        go_big_quiet_step (fail)
        go_big_quiet_step (fail)
        (go_big_quiet_want; refine quiet_indexG LL _ _ rfl A n cap G p j x _ rfl rfl (by first | rfl | omega) E.out ?_; go_simp; go_big_quiet_on)
        (go_big_quiet_want; refine quiet_load_ln G p x _ rfl rfl E.out.rg E.out.blk E.out.ok.1.1 ?_; go_simp; go_big_quiet_on)
        go_big_quiet_step (fail)
        go_big_quiet_step (fail)
        (go_big_quiet_want; refine quiet_indexG LL _ _ rfl A2 n cap2 G2 p2 j y _ rfl rfl (by first | rfl | omega) F.out ?_; go_simp; go_big_quiet_on)
        (go_big_quiet_want; refine quiet_load_ln G2 p2 y _ rfl rfl F.out.rg F.out.blk F.out.ok.1.1 ?_; go_simp; go_big_quiet_on)
        (go_big_quiet_want; refine quiet_neq_ln _ _ _ rfl x y false rfl rfl E.out.ok.1.1 F.out.ok.1.1 HE.out ?_; go_simp; go_big_quiet_on)
        refine wpQuiet_nil ?_
        intro w2 hw2
        have B2 := Lib.hid (step_ BB.out hw2)
        clear hw2
        go_wp2_with fail
        go_roundw
        case rel => exact ⟨j + 1, by omega, by go_num, HO.out, B2.out⟩
        case measure => simp [intOf]; omega
      · have HE := Lib.hid (show (!decide (x = y)) = true by simp [hkk])
        have HO := Lib.hid (show b = false by rw [← HF.out, T.out, U.out]; simp [hkk])
        clear hkk
        go_wp2_with (first
          | go_skip
          | (refine wpList_val rfl _ (exec_lt _ _ rfl (j : Int) (n : Int) true rfl rfl (decide_eq_true (by omega))) ?_))
        refine region_later (by kernel_rfl) (by kernel_rfl) ?_
        go_big_quiet_step (fail)
        go_big_quiet_step (fail)
        (go_big_quiet_want; refine quiet_indexG LL _ _ rfl A n cap G p j x _ rfl rfl (by first | rfl | omega) E.out ?_; go_simp; go_big_quiet_on)
        (go_big_quiet_want; refine quiet_load_ln G p x _ rfl rfl E.out.rg E.out.blk E.out.ok.1.1 ?_; go_simp; go_big_quiet_on)
        go_big_quiet_step (fail)
        go_big_quiet_step (fail)
        (go_big_quiet_want; refine quiet_indexG LL _ _ rfl A2 n cap2 G2 p2 j y _ rfl rfl (by first | rfl | omega) F.out ?_; go_simp; go_big_quiet_on)
        (go_big_quiet_want; refine quiet_load_ln G2 p2 y _ rfl rfl F.out.rg F.out.blk F.out.ok.1.1 ?_; go_simp; go_big_quiet_on)
        (go_big_quiet_want; refine quiet_neq_ln _ _ _ rfl x y true rfl rfl E.out.ok.1.1 F.out.ok.1.1 HE.out ?_; go_simp; go_big_quiet_on)
        refine wpQuiet_nil ?_
        intro w2 hw2
        have B2 := Lib.hid (step_ BB.out hw2)
        clear hw2
        go_wp2_with fail
        go_ret
        exact ⟨ret_bool HO.out.symm, B2.out⟩
    · obtain rfl : j = n := by omega
      have HO := Lib.hid (show b = true by rw [← HF.out, List.drop_of_length_le (by have := H.out.len; omega), List.drop_of_length_le (by have := J.out.len; omega)]; rfl)
      go_wp2_with fail
      go_ret
      exact ⟨ret_bool HO.out.symm, BB.out⟩
theorem eqL_is (A A2 : Option Addr) (n m cap cap2 : Nat) (l k : List (List Int × Int)) (b : Bool) (w : World) (h : RowG EL w A n cap l) (h2 : RowG EL w A2 m cap2 k) (hn : n ≤ 5000) (hb : Hid (decide (l = k) = b)) : Calls Tryz.prog 41 #[.slice A n cap, .slice A2 m cap2] w fun e w' => e = .returned (.bool b) ∧ Below w.heap.size w w' := by
  by_cases e : n = m
  · subst e
    exact eqL_len A A2 n cap cap2 l k b w h h2 hn hb
  · have hf : b = false := by
      rw [← hb.out]
      refine decide_eq_false (fun e2 => e ?_)
      rw [← h.len, ← h2.len, e2]
    rw [hf]
    exact eqL_other A A2 n m cap cap2 w (by omega)
theorem wcs_nm {w : World} {g : Nat} {D : Option Addr} {n cp : Nat} {t : List Int} (h : Blk w g 41 (vcs D n cp t)) : w.rangeAt g 1 (t.map (Value.int .u8)) := fun j v hv => by
  have e : (vcs D n cp t)[1 + j]? = some v := by
    unfold vcs nmL
    rw [Nat.add_comm 1 j, List.getElem?_cons_succ]
    exact hv
  exact h.cell e
set_option maxRecDepth 100000 in
theorem same_is_ (D D2 : Option Addr) (n n2 cp cp2 : Nat) (t t2 : List Int) (L L2 : List (List Int × Int)) (b : Bool) (w : World) (h : RowG EL w D n cp L) (h2 : RowG EL w D2 n2 cp2 L2) (hn : n ≤ 5000) (ht : t.length = 8) (ht2 : t2.length = 8) (hb : Hid ((decide (L = L2) && decide (t = t2)) = b)) :
    Calls Tryz.prog 21 #[.agg (vcs D n cp t).toArray, .agg (vcs D2 n2 cp2 t2).toArray] w fun e w' => e = .returned (.bool b) ∧ Below w.heap.size w w' := by
  have B0 := Lib.hid (step_ (new_below w (.cells (vcs D n cp t).toArray 41)) (new_below _ (.cells (vcs D2 n2 cp2 t2).toArray 41)))
  have K1 := Lib.hid ((blk_alloc w 41 (vcs D n cp t)).alloc (.cells (vcs D2 n2 cp2 t2).toArray 41))
  have K2 := Lib.hid (blk2 w (.cells (vcs D n cp t).toArray 41) 41 (vcs D2 n2 cp2 t2))
  have c1 := K1.out.cell (i := 0) rfl
  have c2 := K2.out.cell (i := 0) rfl
  have H := Lib.hid (h.below B0.out)
  have J := Lib.hid (h2.below B0.out)
  have T1 := Lib.hid ht
  have T2 := Lib.hid ht2
  have HB := Lib.hid hb.out
  clear h h2 hb ht ht2
  obtain ⟨r, hr⟩ : ∃ r, decide (L = L2) = r := ⟨_, rfl⟩
  have HR := Lib.hid hr
  go_enter Tryz.func21, Tryz.ntmps21
  go_wp2_with fail
  refine (eqL_is D D2 n n2 cp cp2 L L2 r _ H.out J.out hn HR).mono ?_
  rintro e w1 ⟨rfl, b1⟩
  have B1 := Lib.hid (step_ B0.out b1)
  have R1 := Lib.hid (wcs_nm (K1.out.below b1))
  have R2 := Lib.hid (wcs_nm (K2.out.below b1))
  rw [hr] at HB
  clear b1 hr
  cases r with
  | false =>
    have HF := Lib.hid (show false = b by rw [← HB.out, Bool.false_and])
    go_wp2_with fail
    go_ret
    exact ⟨by rw [← HF.out]; rfl, B1.out⟩
  | true =>
    have HE := Lib.hid (show (t == t2) = b by rw [← HB.out, Bool.true_and]; by_cases e : t = t2 <;> simp [e])
    go_wp2_with (first
      | (refine wanted_on rfl ?_; refine wpList_load_nm rfl _ rfl w.heap.size 1 t rfl R1.out T1.out ?_)
      | (refine wanted_on rfl ?_; refine wpList_load_nm rfl _ rfl (w.heap.size + 1) 1 t2 rfl R2.out T2.out ?_)
      | (refine wanted_on rfl ?_; refine wpList_val rfl _ (exec_eq_nm _ _ _ rfl t t2 rfl rfl T1.out T2.out) ?_; rw [HE.out]))
    go_ret
    exact ⟨rfl, B1.out⟩
set_option maxRecDepth 100000 in
theorem nameSome_is (t : List Int) (b : Bool) (w : World) (ht : t.length = 8) (hb : Hid ((!(t == M.zero8)) = b)) : Calls Tryz.prog 62 #[.agg (nm t)] w fun e w' => e = .returned (.bool b) ∧ Below w.heap.size w w' := by
  have N0 := Lib.hid (blk_alloc w 25 (nmL t))
  have B0 := Lib.hid (new_below w (.cells (nm t) 25))
  have T1 := Lib.hid ht
  clear ht
  go_enter Tryz.func62, Tryz.ntmps62
  go_wp2_with (first
    | (refine wpList_load_nm rfl _ rfl w.heap.size 0 t rfl N0.out.range T1.out ?_)
    | (refine wpList_val rfl _ (exec_neq_nm _ _ _ rfl t M.zero8 rfl rfl T1.out rfl) ?_; rw [hb.out]))
  go_ret
  exact ⟨rfl, B0.out⟩
set_option maxRecDepth 100000 in
theorem some0_is (D : Option Addr) (cp : Nat) (t : List Int) (b : Bool) (w : World) (ht : t.length = 8) (hb : Hid ((!(t == M.zero8)) = b)) : Calls Tryz.prog 39 #[.agg (vcs D 0 cp t).toArray] w fun e w' => e = .returned (.bool b) ∧ Below w.heap.size w w' := by
  have K1 := Lib.hid (blk_alloc w 41 (vcs D 0 cp t))
  have B0 := Lib.hid (new_below w (.cells (vcs D 0 cp t).toArray 41))
  have c1 := K1.out.cell (i := 0) rfl
  have R1 := Lib.hid (wcs_nm K1.out)
  have T1 := Lib.hid ht
  clear ht
  go_enter Tryz.func39, Tryz.ntmps39
  go_wp2_with (refine wanted_on rfl ?_; refine wpList_load_nm rfl _ rfl w.heap.size 1 t rfl R1.out T1.out ?_)
  refine (nameSome_is t b _ T1.out hb).mono ?_
  rintro e w1 ⟨rfl, b1⟩
  have B1 := Lib.hid (step_ B0.out b1)
  clear b1
  go_wp2_with fail
  go_ret
  exact ⟨rfl, B1.out⟩
set_option maxRecDepth 100000 in
theorem some_is_ (D : Option Addr) (n cp : Nat) (t : List Int) (b : Bool) (w : World) (ht : t.length = 8) (hb : Hid ((decide (0 < n) || !(t == M.zero8)) = b)) : Calls Tryz.prog 39 #[.agg (vcs D n cp t).toArray] w fun e w' => e = .returned (.bool b) ∧ Below w.heap.size w w' := by
  rcases Nat.eq_zero_or_pos n with rfl | h0
  · exact some0_is D cp t b w ht (Lib.hid hb.out)
  · have K1 := Lib.hid (blk_alloc w 41 (vcs D n cp t))
    have B0 := Lib.hid (new_below w (.cells (vcs D n cp t).toArray 41))
    have c1 := K1.out.cell (i := 0) rfl
    have hd := Lib.hid (show decide ((0 : Int) < (n : Int)) = true from decide_eq_true (by omega))
    have HF := Lib.hid (show true = b by rw [← hb.out, decide_eq_true h0, Bool.true_or])
    clear hb h0 ht
    go_enter Tryz.func39, Tryz.ntmps39
    go_wp2_with (refine wpList_val rfl _ (exec_gt _ _ rfl (n : Int) 0 true rfl rfl hd.out) ?_)
    go_ret
    exact ⟨by rw [← HF.out]; rfl, B0.out⟩
end Go.Proofs.YtijfbhdbfplghaaGreat
