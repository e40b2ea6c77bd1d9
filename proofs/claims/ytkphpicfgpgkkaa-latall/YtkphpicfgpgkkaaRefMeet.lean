/- The contracts of Leq and Meet of the reference. -/
import Derived.Test.YtkphpicfgpgkkaaRefNorm
namespace Go.Proofs.Ytkphpicfgpgkkaa
open Go.RowKit

theorem leA_none {f : Ky → Option Vl} {x : Am} (h : f x.k = none) : leA f x = false := by unfold leA; rw [h]
theorem leA_some {f : Ky → Option Vl} {x : Am} {u : Vl} (h : f x.k = some u) : leA f x = over u x.v := by unfold leA; rw [h]
theorem fnd_norm' {b : List Am} (h : OkR b) : fnd (norm b) = gt b := funext fun k => fnd_norm h k
set_option maxRecDepth 100000 in
set_option maxHeartbeats 4000000 in
theorem refLeq_is (A B : Option Addr) (n m cap cap2 : Nat) (a b : List Am) (r : Bool) (w : World) (h : RowV w A n cap a) (h2 : RowV w B m cap2 b) (hn : n ≤ 1000) (hm : m ≤ 1000) (hr : Hid (leq a b = r)) : Calls Try.prog 20 #[.slice A n cap, .slice B m cap2] w fun e w' => e = .returned (.bool r) ∧ Below w.heap.size w w' := by
  have hz := zero30
  have HJ := Lib.hid (show (norm a).all (leA (fnd (norm b))) = r by rw [fnd_norm' h2.ok]; exact hr.out)
  have H := Lib.hid h
  have J := Lib.hid h2
  clear h h2
  go_enter Try.func20, Try.ntmps20
  go_wp2_with fail
  refine (refNorm_is A n cap a _ H.out hn).mono ?_
  rintro e w1 ⟨⟨A1, n1, c1, rfl, r1⟩, b1⟩
  have B1 := Lib.hid b1
  have R1' := Lib.hid r1
  clear b1 r1
  go_wp2_with fail
  refine (refNorm_is B m cap2 b _ (J.out.below B1.out) hm).mono ?_
  rintro e w2 ⟨⟨A2, n2, c2, rfl, r2⟩, b2⟩
  have B2 := Lib.hid (step_ B1.out b2)
  have R1 := Lib.hid (R1'.out.below b2)
  have R2 := Lib.hid r2
  have hn1 : n1 ≤ 1000 := by have := norm_len a; rw [R1.out.len, H.out.len] at this; omega
  have hn2 : n2 ≤ 1000 := by have := norm_len b; rw [R2.out.len, J.out.len] at this; omega
  clear b2 r2 R1'
  obtain ⟨X, hX⟩ : ∃ X, norm a = X := ⟨_, rfl⟩
  obtain ⟨Y, hY⟩ : ∃ Y, norm b = Y := ⟨_, rfl⟩
  rw [hX] at R1 HJ
  rw [hY] at R2 HJ
  clear hX hY H J hr
  go_wp2_with fail
  go_loopw [5] (fun i wr => ∃ j : Nat, j ≤ n1 ∧ i = .int .i64 j ∧ (X.drop j).all (leA (fnd Y)) = r ∧ Below w2.heap.size w2 wr) (fun i _ => n1 - (intOf i).toNat)
  case atStart => exact ⟨0, Nat.zero_le _, rfl, HJ.out, Below.refl _ _⟩
  case round =>
    obtain ⟨j, hj, rfl, hf, hb⟩ := hrel
    have II := Lib.hid hf
    have BB := Lib.hid hb
    clear hf hb
    by_cases hlt : j < n1
    · obtain ⟨G, p, hE⟩ := R1.out.elem j hlt
      have E0 := Lib.hid hE
      have T := Lib.hid (drop_getD (l := X) (j := j) (by have := R1.out.len; omega))
      obtain ⟨x, hx⟩ : ∃ x, X.getD j azero = x := ⟨_, rfl⟩
      rw [hx] at E0 T
      clear hE hx
      have E := Lib.hid (E0.out.below BB.out)
      cases hf : fnd Y x.k with
      | none =>
        have HF := Lib.hid hf
        have HO := Lib.hid (show r = false by rw [← II.out, T.out, List.all_cons, leA_none hf]; rfl)
        clear hf
        go_wp2_with (first
          | go_skip
          | refine wpList_index rfl _ _ rfl A1 n1 c1 G p j x _ rfl rfl (by first | rfl | omega) E.out ?_
          | refine wpList_load_ky rfl _ rfl G p x.k rfl (range_ak E.out.rg) E.out.ok.k.ml ?_)
        refine (find_is A2 n2 c2 Y x.k none _ (R2.out.below BB.out) E.out.ok.k (by omega) HF).mono ?_
        rintro e w4 ⟨rfl, b4⟩
        replace E := Lib.hid (E.out.below b4)
        replace BB := Lib.hid (BB.out.trans (b4.mono BB.out.size))
        have Z := Lib.hid (blk_alloc w4 32 vzero.cells)
        clear b4
        simp only [Option.getD_none, Option.isSome_none]
        go_wp2_with (first
          | go_skip
          | (refine wpList_store_vl rfl _ _ rfl w4.heap.size vzero vzero rfl rfl Z.out rfl rfl ?_; intro w5 N5 O5))
        have B5 := Lib.hid (box_below O5.out)
        obtain ⟨g5, hg5⟩ : ∃ g5, g5 = w4.heap.size := ⟨_, rfl⟩
        have HG5 := Lib.hid hg5
        rw [← hg5] at N5 ⊢
        clear hg5
        replace E := Lib.hid (E.out.below B5.out)
        replace BB := Lib.hid (BB.out.trans (B5.out.mono BB.out.size))
        clear O5 Z
        go_wp2_with fail
        refine region_later (by kernel_rfl) (by kernel_rfl) ?_
        go_big_quiet_step (fail)
        go_big_quiet_step (fail)
        go_big_quiet_step (fail)
        go_big_quiet_step (fail)
        go_big_quiet_step (fail)
        go_big_quiet_step (fail)
        go_big_quiet_step (fail)
        go_big_quiet_step (fail)
        go_big_quiet_step (fail)
        go_big_quiet_step (fail)
        go_big_quiet_step (fail)
        go_big_quiet_step (fail)
        refine wpQuiet_nil ?_
        intro w6 hw6
        have B6 := Lib.hid (BB.out.trans (hw6.mono BB.out.size))
        clear hw6
        go_wp2_with fail
        go_ret
        exact ⟨ret_bool HO.out.symm, step_ B2.out B6.out⟩
      | some u =>
        have HF := Lib.hid hf
        have UO := Lib.hid (show u.Ok from fnd_ok R2.out.ok _ _ hf)
        cases ho : over u x.v with
        | false =>
          have HV := Lib.hid ho
          have HO := Lib.hid (show r = false by rw [← II.out, T.out, List.all_cons, leA_some hf, ho]; rfl)
          clear hf ho
          go_wp2_with (first
            | go_skip
            | refine wpList_index rfl _ _ rfl A1 n1 c1 G p j x _ rfl rfl (by first | rfl | omega) E.out ?_
            | refine wpList_load_ky rfl _ rfl G p x.k rfl (range_ak E.out.rg) E.out.ok.k.ml ?_)
          refine (find_is A2 n2 c2 Y x.k (some u) _ (R2.out.below BB.out) E.out.ok.k (by omega) HF).mono ?_
          rintro e w4 ⟨rfl, b4⟩
          replace E := Lib.hid (E.out.below b4)
          replace BB := Lib.hid (BB.out.trans (b4.mono BB.out.size))
          have Z := Lib.hid (blk_alloc w4 32 vzero.cells)
          clear b4
          simp only [Option.getD_some, Option.isSome_some]
          go_wp2_with (first
            | go_skip
            | (refine wpList_store_vl rfl _ _ rfl w4.heap.size vzero u rfl rfl Z.out rfl UO.out.tl ?_; intro w5 N5 O5))
          have B5 := Lib.hid (box_below O5.out)
          obtain ⟨g5, hg5⟩ : ∃ g5, g5 = w4.heap.size := ⟨_, rfl⟩
          have HG5 := Lib.hid hg5
          rw [← hg5] at N5 ⊢
          clear hg5
          replace E := Lib.hid (E.out.below B5.out)
          replace BB := Lib.hid (BB.out.trans (B5.out.mono BB.out.size))
          clear O5 Z
          go_wp2_with fail
          refine region_later (by kernel_rfl) (by kernel_rfl) ?_
          go_big_quiet_step (fail)
          go_big_quiet_step (fail)
          go_big_quiet_step (fail)
          (go_big_quiet_want; refine quiet_load_vl g5 0 u _ rfl rfl N5.out.range N5.out.lt UO.out.tl ?_; go_simp; go_big_quiet_on)
          go_big_quiet_step (fail)
          go_big_quiet_step (fail)
          (go_big_quiet_want; refine quiet_index _ _ rfl A1 n1 c1 G p j x _ rfl rfl (by first | rfl | omega) E.out ?_; go_simp; go_big_quiet_on)
          go_big_quiet_step (fail)
          (go_big_quiet_want; refine quiet_load_vl G (p + 12) x.v _ rfl rfl (range_av E.out.rg E.out.ok) E.out.blk E.out.ok.v.tl ?_; go_simp; go_big_quiet_on)
          go_big_quiet_step (exact later_call (refOver_is u x.v false _ UO.out E.out.ok.v HV))
          go_big_quiet_step (fail)
          go_big_quiet_step (fail)
          refine wpQuiet_nil ?_
          intro w6 hw6
          have B6 := Lib.hid (BB.out.trans (hw6.mono BB.out.size))
          clear hw6
          go_wp2_with fail
          go_ret
          exact ⟨ret_bool HO.out.symm, step_ B2.out B6.out⟩
        | true =>
          have HV := Lib.hid ho
          have HO := Lib.hid (show (X.drop (j + 1)).all (leA (fnd Y)) = r by rw [← II.out, T.out, List.all_cons, leA_some hf, ho, Bool.true_and])
          clear hf ho
          go_wp2_with (first
            | go_skip
            | refine wpList_index rfl _ _ rfl A1 n1 c1 G p j x _ rfl rfl (by first | rfl | omega) E.out ?_
            | refine wpList_load_ky rfl _ rfl G p x.k rfl (range_ak E.out.rg) E.out.ok.k.ml ?_)
          refine (find_is A2 n2 c2 Y x.k (some u) _ (R2.out.below BB.out) E.out.ok.k (by omega) HF).mono ?_
          rintro e w4 ⟨rfl, b4⟩
          replace E := Lib.hid (E.out.below b4)
          replace BB := Lib.hid (BB.out.trans (b4.mono BB.out.size))
          have Z := Lib.hid (blk_alloc w4 32 vzero.cells)
          clear b4
          simp only [Option.getD_some, Option.isSome_some]
          go_wp2_with (first
            | go_skip
            | (refine wpList_store_vl rfl _ _ rfl w4.heap.size vzero u rfl rfl Z.out rfl UO.out.tl ?_; intro w5 N5 O5))
          have B5 := Lib.hid (box_below O5.out)
          obtain ⟨g5, hg5⟩ : ∃ g5, g5 = w4.heap.size := ⟨_, rfl⟩
          have HG5 := Lib.hid hg5
          rw [← hg5] at N5 ⊢
          clear hg5
          replace E := Lib.hid (E.out.below B5.out)
          replace BB := Lib.hid (BB.out.trans (B5.out.mono BB.out.size))
          clear O5 Z
          go_wp2_with fail
          refine region_later (by kernel_rfl) (by kernel_rfl) ?_
          go_big_quiet_step (fail)
          go_big_quiet_step (fail)
          go_big_quiet_step (fail)
          (go_big_quiet_want; refine quiet_load_vl g5 0 u _ rfl rfl N5.out.range N5.out.lt UO.out.tl ?_; go_simp; go_big_quiet_on)
          go_big_quiet_step (fail)
          go_big_quiet_step (fail)
          (go_big_quiet_want; refine quiet_index _ _ rfl A1 n1 c1 G p j x _ rfl rfl (by first | rfl | omega) E.out ?_; go_simp; go_big_quiet_on)
          go_big_quiet_step (fail)
          (go_big_quiet_want; refine quiet_load_vl G (p + 12) x.v _ rfl rfl (range_av E.out.rg E.out.ok) E.out.blk E.out.ok.v.tl ?_; go_simp; go_big_quiet_on)
          go_big_quiet_step (exact later_call (refOver_is u x.v true _ UO.out E.out.ok.v HV))
          go_big_quiet_step (fail)
          go_big_quiet_step (fail)
          refine wpQuiet_nil ?_
          intro w6 hw6
          have B6 := Lib.hid (BB.out.trans (hw6.mono BB.out.size))
          clear hw6
          go_wp2_with fail
          go_roundw
          case rel => exact ⟨j + 1, by omega, by go_num, HO.out, B6.out⟩
          case measure => simp [intOf]; omega
    · obtain rfl : j = n1 := by omega
      have HO := Lib.hid (show r = true by rw [← II.out, List.drop_of_length_le (by have := R1.out.len; omega)]; rfl)
      go_wp2_with fail
      go_ret
      exact ⟨ret_bool HO.out.symm, step_ B2.out BB.out⟩
def MI (X : List Am) (f : Ky → Option Vl) (j : Nat) (out : List Am) : Prop := out ++ meetF (X.drop j) f = meetF X f
theorem meetF_len (X : List Am) (f : Ky → Option Vl) : (meetF X f).length ≤ X.length := List.length_filterMap_le ..
section
variable {X : List Am} {f : Ky → Option Vl} {j : Nat} {out : List Am} {x : Am}
theorem MI.len (h : MI X f j out) : out.length ≤ X.length := by
  have := meetF_len X f
  rw [← h, List.length_append] at this; omega
theorem MI.no (h : MI X f j out) (hd : X.drop j = x :: X.drop (j + 1)) (hf : f x.k = none) : MI X f (j + 1) out := by
  unfold MI at *; rw [← h, hd, meetF_cons, hf]
theorem MI.yes (h : MI X f j out) {u : Vl} (hd : X.drop j = x :: X.drop (j + 1)) (hf : f x.k = some u) : MI X f (j + 1) (out ++ [⟨x.k, under x.v u⟩]) := by
  unfold MI at *; rw [← h, hd, meetF_cons, hf]; simp
theorem MI.done (h : MI X f X.length out) : out = meetF X f := by
  unfold MI at *; rw [← h, List.drop_length]; simp [meetF]
end
set_option maxRecDepth 100000 in
set_option maxHeartbeats 4000000 in
theorem refMeet_is (A B : Option Addr) (n m cap cap2 : Nat) (a b : List Am) (w : World) (h : RowV w A n cap a) (h2 : RowV w B m cap2 b) (hn : n ≤ 1000) (hm : m ≤ 1000) : Calls Try.prog 18 #[.slice A n cap, .slice B m cap2] w (GivesR w (meet a b)) := by
  have hz := zero30
  have HJ := Lib.hid (show meetF (norm a) (fnd (norm b)) = meet a b by rw [fnd_norm' h2.ok]; rfl)
  have H := Lib.hid h
  have J := Lib.hid h2
  clear h h2
  go_enter Try.func18, Try.ntmps18
  go_wp2_with fail
  refine (refNorm_is A n cap a _ H.out hn).mono ?_
  rintro e w1 ⟨⟨A1, n1, c1, rfl, r1⟩, b1⟩
  have B1 := Lib.hid b1
  have R1' := Lib.hid r1
  clear b1 r1
  go_wp2_with fail
  refine (refNorm_is B m cap2 b _ (J.out.below B1.out) hm).mono ?_
  rintro e w2 ⟨⟨A2, n2, c2, rfl, r2⟩, b2⟩
  have B2 := Lib.hid (step_ B1.out b2)
  have R1 := Lib.hid (R1'.out.below b2)
  have R2 := Lib.hid r2
  have hn1 : n1 ≤ 1000 := by have := norm_len a; rw [R1.out.len, H.out.len] at this; omega
  have hn2 : n2 ≤ 1000 := by have := norm_len b; rw [R2.out.len, J.out.len] at this; omega
  clear b2 r2 R1'
  obtain ⟨X, hX⟩ : ∃ X, norm a = X := ⟨_, rfl⟩
  obtain ⟨Y, hY⟩ : ∃ Y, norm b = Y := ⟨_, rfl⟩
  rw [hX] at R1 HJ
  rw [hY] at R2 HJ
  clear hX hY H J
  go_wp2_with fail
  go_loopw [5, 6] (fun v i wr => ∃ (j : Nat) (out : List Am), j ≤ n1 ∧ i = .int .i64 j ∧ OwnR wr w2.heap.size v out ∧ MI X (fnd Y) j out ∧ Below w2.heap.size w2 wr) (fun _ i _ => n1 - (intOf i).toNat)
  case atStart => exact ⟨0, [], Nat.zero_le _, rfl, ownR_nil _ _, rfl, Below.refl _ _⟩
  case round =>
    obtain ⟨j, out, hj, rfl, ho, hf, hb⟩ := hrel
    have OO := Lib.hid ho
    have II := Lib.hid hf
    have BB := Lib.hid hb
    have LL := Lib.hid (show out.length ≤ 5000 by have := hf.len; have := R1.out.len; omega)
    clear ho hf hb
    by_cases hlt : j < n1
    · obtain ⟨G, p, hE⟩ := R1.out.elem j hlt
      have E0 := Lib.hid hE
      have T := Lib.hid (drop_getD (l := X) (j := j) (by have := R1.out.len; omega))
      obtain ⟨x, hx⟩ : ∃ x, X.getD j azero = x := ⟨_, rfl⟩
      rw [hx] at E0 T
      clear hE hx
      have E := Lib.hid (E0.out.below BB.out)
      cases hf : fnd Y x.k with
      | none =>
        have HF := Lib.hid hf
        have IN := Lib.hid (II.out.no T.out hf)
        clear hf
        go_wp2_with (first
          | go_skip
          | refine wpList_index rfl _ _ rfl A1 n1 c1 G p j x _ rfl rfl (by first | rfl | omega) E.out ?_
          | refine wpList_load_ky rfl _ rfl G p x.k rfl (range_ak E.out.rg) E.out.ok.k.ml ?_)
        refine (find_is A2 n2 c2 Y x.k none _ (R2.out.below BB.out) E.out.ok.k (by omega) HF).mono ?_
        rintro e w4 ⟨rfl, b4⟩
        replace E := Lib.hid (E.out.below b4)
        replace OO := Lib.hid (OO.out.below b4)
        have KO := Lib.hid OO.out.row.lt
        replace BB := Lib.hid (BB.out.trans (b4.mono BB.out.size))
        have Z := Lib.hid (blk_alloc w4 32 vzero.cells)
        clear b4
        simp only [Option.getD_none, Option.isSome_none]
        go_wp2_with (first
          | go_skip
          | (refine wpList_store_vl rfl _ _ rfl w4.heap.size vzero vzero rfl rfl Z.out rfl rfl ?_; intro w5 N5 O5))
        have B5 := Lib.hid (box_below O5.out)
        replace E := Lib.hid (E.out.below B5.out)
        replace OO := Lib.hid (OO.out.below B5.out)
        replace BB := Lib.hid (BB.out.trans (B5.out.mono BB.out.size))
        clear O5 Z
        go_wp2_with fail
        go_roundw
        case rel => exact ⟨j + 1, out, by omega, by go_num, OO.out, IN.out, BB.out⟩
        case measure => simp [intOf]; omega
      | some u =>
        have HF := Lib.hid hf
        have UO := Lib.hid (show u.Ok from fnd_ok R2.out.ok _ _ hf)
        have IN := Lib.hid (II.out.yes T.out hf)
        cases ho : over x.v u with
        | true =>
          have HV := Lib.hid ho
          replace IN := Lib.hid (show MI X (fnd Y) (j + 1) (out ++ [⟨x.k, u⟩]) by have := IN.out; unfold under at this; rw [if_pos ho] at this; exact this)
          clear hf ho
          go_wp2_with (first
            | go_skip
            | refine wpList_index rfl _ _ rfl A1 n1 c1 G p j x _ rfl rfl (by first | rfl | omega) E.out ?_
            | refine wpList_load_ky rfl _ rfl G p x.k rfl (range_ak E.out.rg) E.out.ok.k.ml ?_)
          refine (find_is A2 n2 c2 Y x.k (some u) _ (R2.out.below BB.out) E.out.ok.k (by omega) HF).mono ?_
          rintro e w4 ⟨rfl, b4⟩
          replace E := Lib.hid (E.out.below b4)
          replace OO := Lib.hid (OO.out.below b4)
          have KO := Lib.hid OO.out.row.lt
          replace BB := Lib.hid (BB.out.trans (b4.mono BB.out.size))
          have Z := Lib.hid (blk_alloc w4 32 vzero.cells)
          clear b4
          simp only [Option.getD_some, Option.isSome_some]
          go_wp2_with (first
            | go_skip
            | (refine wpList_store_vl rfl _ _ rfl w4.heap.size vzero u rfl rfl Z.out rfl UO.out.tl ?_; intro w5 N5 O5))
          have B5 := Lib.hid (box_below O5.out)
          obtain ⟨g5, hg5⟩ : ∃ g5, g5 = w4.heap.size := ⟨_, rfl⟩
          have HG5 := Lib.hid hg5
          rw [← hg5] at N5 ⊢
          clear hg5
          replace E := Lib.hid (E.out.below B5.out)
          replace OO := Lib.hid (OO.out.below B5.out)
          replace BB := Lib.hid (BB.out.trans (B5.out.mono BB.out.size))
          clear O5 Z
          go_wp2_with fail
          refine region_later (by kernel_rfl) (by kernel_rfl) ?_
          go_big_quiet_step (fail)
          go_big_quiet_step (fail)
          (go_big_quiet_want; refine quiet_index _ _ rfl A1 n1 c1 G p j x _ rfl rfl (by first | rfl | omega) E.out ?_; go_simp; go_big_quiet_on)
          go_big_quiet_step (fail)
          (go_big_quiet_want; refine quiet_load_vl G (p + 12) x.v _ rfl rfl (range_av E.out.rg E.out.ok) E.out.blk E.out.ok.v.tl ?_; go_simp; go_big_quiet_on)
          (go_big_quiet_want; refine quiet_load_vl g5 0 u _ rfl rfl N5.out.range N5.out.lt UO.out.tl ?_; go_simp; go_big_quiet_on)
          go_big_quiet_step (exact later_call (refOver_is x.v u true _ E.out.ok.v UO.out HV))
          refine wpQuiet_nil ?_
          intro w6 hw6
          replace E := Lib.hid (E.out.below hw6)
          replace N5 := Lib.hid (N5.out.below hw6)
          replace OO := Lib.hid (OO.out.below hw6)
          replace BB := Lib.hid (BB.out.trans (hw6.mono BB.out.size))
          have HB := Lib.hid BB.out.size
          clear hw6
          go_wp2_with fail
          have S1 := Lib.hid (show Below w2.heap.size w6 w6.drew ∧ Blk w6.drew g5 32 u.cells from ⟨below_drew (Below.refl _ _), N5.out.drew⟩)
          refine wp_region_noPanic ?_
          refine wp_region_held_drew (S := fun W => Below w2.heap.size w6 W ∧ Blk W g5 32 u.cells) (by kernel_rfl) S1.out (fun _ => ?_)
          refine wpAnyH_take (i := 0) (oi := { dst := some 38, op := Go.Op.move (Go.Operand.tmp 5), type := 22, pos := _, after := #[], guard := none }) (v := ?_) rfl (by kernel_rfl) (by kernel_rfl) (by kernel_rfl) (fun _ _ _ h => h) (Or.inl ⟨by rfl, ?_⟩) S1.out ?_
          rotate_left
          · intro W hW; (go_simp; try with_reducible rfl)
          try simp only [Act.put, List.setIfInBounds_toArray, List.set_cons_zero, List.set_cons_succ]
          refine wpAnyH_take (i := 1) (oi := { dst := some 39, op := Go.Op.move (Go.Operand.tmp 0), type := 22, pos := _, after := #[], guard := none }) (v := ?_) rfl (by kernel_rfl) (by kernel_rfl) (by kernel_rfl) (fun _ _ _ h => h) (Or.inl ⟨by rfl, ?_⟩) S1.out ?_
          rotate_left
          · intro W hW; (go_simp; try with_reducible rfl)
          try simp only [Act.put, List.setIfInBounds_toArray, List.set_cons_zero, List.set_cons_succ]
          refine wpAnyH_take (i := 2) (oi := { dst := some 40, op := Go.Op.move (Go.Operand.tmp 6), type := 3, pos := _, after := #[], guard := none }) (v := ?_) rfl (by kernel_rfl) (by kernel_rfl) (by kernel_rfl) (fun _ _ _ h => h) (Or.inl ⟨by rfl, ?_⟩) S1.out ?_
          rotate_left
          · intro W hW; (go_simp; try with_reducible rfl)
          try simp only [Act.put, List.setIfInBounds_toArray, List.set_cons_zero, List.set_cons_succ]
          refine wpAnyH_take (i := 3) (oi := { dst := some 41, op := Go.Op.indexAddr 22 (Go.Operand.tmp 39) (Go.Operand.tmp 40), type := 0, pos := _, after := #[{ on := 1, ground := Go.Ground.data }, { on := 2, ground := Go.Ground.data }], guard := none }) (v := .pointer (some ⟨G, p, none⟩)) rfl (by kernel_rfl) (by kernel_rfl) (by kernel_rfl) (fun _ _ _ h => h) (Or.inl ⟨by rfl, fun W hW => exec_index _ _ rfl A1 n1 c1 G p j x _ rfl rfl (by first | rfl | omega) E.out⟩) S1.out ?_
          try simp only [Act.put, List.setIfInBounds_toArray, List.set_cons_zero, List.set_cons_succ]
          refine wpAnyH_take (i := 4) (oi := { dst := some 42, op := Go.Op.fieldAddr 46 (Go.Operand.tmp 41) 0, type := 0, pos := _, after := #[{ on := 3, ground := Go.Ground.data }], guard := none }) (v := ?_) rfl (by kernel_rfl) (by kernel_rfl) (by kernel_rfl) (fun _ _ _ h => h) (Or.inl ⟨by rfl, ?_⟩) S1.out ?_
          rotate_left
          · intro W hW; (go_simp; try with_reducible rfl)
          try simp only [Act.put, List.setIfInBounds_toArray, List.set_cons_zero, List.set_cons_succ]
          refine wpAnyH_take (i := 5) (oi := { dst := some 43, op := Go.Op.load 28 (Go.Operand.tmp 42), type := 28, pos := _, after := #[{ on := 4, ground := Go.Ground.data }], guard := none }) (v := .agg x.k.cells.toArray) rfl (by kernel_rfl) (by kernel_rfl) (by kernel_rfl) (fun _ _ _ h => h) (yieldsIf_load_mid (by rfl) 28 (.tmp 42) rfl G p rfl x.k.cells _ (fun W hW => range_ak (E0.out.below (BB.out.trans hW.1)).rg) Try.underlying28 rfl (size27 E.out.ok.k.ml)) S1.out ?_
          try simp only [Act.put, List.setIfInBounds_toArray, List.set_cons_zero, List.set_cons_succ]
          refine wpAnyH_take (i := 6) (oi := { dst := some 44, op := Go.Op.load 32 (Go.Operand.tmp 7), type := 32, pos := _, after := #[], guard := none }) (v := .agg u.cells.toArray) rfl (by kernel_rfl) (by kernel_rfl) (by kernel_rfl) (fun _ _ _ h => h) (yieldsIf_load_mid (by rfl) 32 (.tmp 7) rfl g5 0 rfl u.cells _ (fun W hW => hW.2.range) Try.underlying32 rfl (size30 UO.out.tl)) S1.out ?_
          try simp only [Act.put, List.setIfInBounds_toArray, List.set_cons_zero, List.set_cons_succ]
          refine wpAnyH_take (i := 7) (oi := { dst := some 45, op := Go.Op.build 46 #[(0, Go.Operand.tmp 43), (1, Go.Operand.tmp 44)], type := 46, pos := _, after := #[{ on := 5, ground := Go.Ground.data }, { on := 6, ground := Go.Ground.data }], guard := none }) (v := .agg (⟨x.k, u⟩ : Am).cells.toArray) rfl (by kernel_rfl) (by kernel_rfl) (by kernel_rfl) (fun _ _ _ h => h) (Or.inl ⟨by rfl, fun W hW => exec_build 46 _ rfl [(0, .agg x.k.cells.toArray), (1, .agg u.cells.toArray)] rfl _ (built46 x.k u E.out.ok.k.ml UO.out.tl)⟩) S1.out ?_
          try simp only [Act.put, List.setIfInBounds_toArray, List.set_cons_zero, List.set_cons_succ]
          refine wpAnyH_ready (rs := [8]) (by kernel_rfl) (by simp) ?_
          refine ready_one46 (o := { dst := some 46, op := Go.Op.buildSlice 22 1 #[(0, Go.Operand.tmp 45)], type := 22, pos := _, after := #[{ on := 7, ground := Go.Ground.data }], guard := none }) rfl rfl _ rfl ⟨x.k, u⟩ rfl ⟨E.out.ok.k, UO.out⟩ (fun g7 w7 e7 N7 b7 => ?_) AllReadyH.nil
          refine ⟨⟨S1.out.1.trans (b7.mono HB.out), S1.out.2.below b7⟩, ?_⟩
          try simp only [Act.put, List.setIfInBounds_toArray, List.set_cons_zero, List.set_cons_succ]
          refine wpAnyH_ready (rs := [9]) (by kernel_rfl) (by simp) ?_
          refine ready_app46 (o := { dst := some 47, op := Go.Op.call { callee := Go.Callee.builtin Go.Builtin.append, args := #[Go.Operand.tmp 38, Go.Operand.tmp 46], argTypes := #[22, 22] }, type := 22, pos := _, after := #[{ on := 0, ground := Go.Ground.data }, { on := 8, ground := Go.Ground.data }], guard := none }) rfl rfl _ _ rfl w2.heap.size _ out ⟨x.k, u⟩ g7 rfl rfl (OO.out.drew.below b7) ⟨E.out.ok.k, UO.out⟩ N7 LL.out (Nat.le_trans HB.out b7.size) (fun D8 m8 c8 w8 e8 O8 b8 G8 => ?_) AllReadyH.nil
          refine ⟨⟨(S1.out.1.trans (b7.mono HB.out)).trans b8, (G8.block g5 (S1.out.2.below b7).lt (fun e => by have := (KO.out g5 e.symm).2; have := HG5.out; omega)).trans (S1.out.2.below b7)⟩, ?_⟩
          try simp only [Act.put, List.setIfInBounds_toArray, List.set_cons_zero, List.set_cons_succ]
          have S8 := Lib.hid (show Below w2.heap.size w6 w8 ∧ Blk w8 g5 32 u.cells from ⟨(S1.out.1.trans (b7.mono HB.out)).trans b8, (G8.block g5 (S1.out.2.below b7).lt (fun e => by have := (KO.out g5 e.symm).2; have := HG5.out; omega)).trans (S1.out.2.below b7)⟩)
          have O8' := Lib.hid O8
          clear N7 b7 O8 b8 G8
          refine wpAnyH_take (i := 10) (oi := { dst := some 5, op := Go.Op.assign (Go.Operand.tmp 47), type := 22, pos := _, after := #[{ on := 9, ground := Go.Ground.data }, { on := 9, ground := Go.Ground.chain }, { on := 0, ground := Go.Ground.phase }, { on := 1, ground := Go.Ground.phase }, { on := 2, ground := Go.Ground.phase }, { on := 3, ground := Go.Ground.phase }, { on := 4, ground := Go.Ground.phase }, { on := 5, ground := Go.Ground.phase }, { on := 6, ground := Go.Ground.phase }, { on := 7, ground := Go.Ground.phase }, { on := 8, ground := Go.Ground.phase }, { on := 9, ground := Go.Ground.phase }], guard := none }) (v := ?_) rfl (by kernel_rfl) (by kernel_rfl) (by kernel_rfl) (fun _ _ _ h => h) (Or.inl ⟨by rfl, ?_⟩) S8.out ?_
          rotate_left
          · intro W hW; (go_simp; try with_reducible rfl)
          try simp only [Act.put, List.setIfInBounds_toArray, List.set_cons_zero, List.set_cons_succ]
          refine wpAnyH_done (by kernel_rfl) ?_ _
          refine NoPanic.normal ?_
          go_wp2_with fail
          go_roundw
          case rel => exact ⟨j + 1, _, by omega, by go_num, O8'.out, IN.out, BB.out.trans S8.out.1⟩
          case measure => simp [intOf]; omega
        | false =>
          have HV := Lib.hid ho
          replace IN := Lib.hid (show MI X (fnd Y) (j + 1) (out ++ [x]) by have := IN.out; unfold under at this; rw [if_neg (by rw [ho]; decide)] at this; exact this)
          clear hf ho
          go_wp2_with (first
            | go_skip
            | refine wpList_index rfl _ _ rfl A1 n1 c1 G p j x _ rfl rfl (by first | rfl | omega) E.out ?_
            | refine wpList_load_ky rfl _ rfl G p x.k rfl (range_ak E.out.rg) E.out.ok.k.ml ?_)
          refine (find_is A2 n2 c2 Y x.k (some u) _ (R2.out.below BB.out) E.out.ok.k (by omega) HF).mono ?_
          rintro e w4 ⟨rfl, b4⟩
          replace E := Lib.hid (E.out.below b4)
          replace OO := Lib.hid (OO.out.below b4)
          have KO := Lib.hid OO.out.row.lt
          replace BB := Lib.hid (BB.out.trans (b4.mono BB.out.size))
          have Z := Lib.hid (blk_alloc w4 32 vzero.cells)
          clear b4
          simp only [Option.getD_some, Option.isSome_some]
          go_wp2_with (first
            | go_skip
            | (refine wpList_store_vl rfl _ _ rfl w4.heap.size vzero u rfl rfl Z.out rfl UO.out.tl ?_; intro w5 N5 O5))
          have B5 := Lib.hid (box_below O5.out)
          obtain ⟨g5, hg5⟩ : ∃ g5, g5 = w4.heap.size := ⟨_, rfl⟩
          have HG5 := Lib.hid hg5
          rw [← hg5] at N5 ⊢
          clear hg5
          replace E := Lib.hid (E.out.below B5.out)
          replace OO := Lib.hid (OO.out.below B5.out)
          replace BB := Lib.hid (BB.out.trans (B5.out.mono BB.out.size))
          clear O5 Z
          go_wp2_with fail
          refine region_later (by kernel_rfl) (by kernel_rfl) ?_
          go_big_quiet_step (fail)
          go_big_quiet_step (fail)
          (go_big_quiet_want; refine quiet_index _ _ rfl A1 n1 c1 G p j x _ rfl rfl (by first | rfl | omega) E.out ?_; go_simp; go_big_quiet_on)
          go_big_quiet_step (fail)
          (go_big_quiet_want; refine quiet_load_vl G (p + 12) x.v _ rfl rfl (range_av E.out.rg E.out.ok) E.out.blk E.out.ok.v.tl ?_; go_simp; go_big_quiet_on)
          (go_big_quiet_want; refine quiet_load_vl g5 0 u _ rfl rfl N5.out.range N5.out.lt UO.out.tl ?_; go_simp; go_big_quiet_on)
          go_big_quiet_step (exact later_call (refOver_is x.v u false _ E.out.ok.v UO.out HV))
          refine wpQuiet_nil ?_
          intro w6 hw6
          replace E := Lib.hid (E.out.below hw6)
          replace N5 := Lib.hid (N5.out.below hw6)
          replace OO := Lib.hid (OO.out.below hw6)
          replace BB := Lib.hid (BB.out.trans (hw6.mono BB.out.size))
          have HB := Lib.hid BB.out.size
          clear hw6
          go_wp2_with (first
            | go_skip
            | refine wpList_index rfl _ _ rfl A1 n1 c1 G p j x _ rfl rfl (by first | rfl | omega) E.out ?_
            | refine wpList_load_amx rfl _ rfl G p x rfl E.out.rg E.out.ok ?_
            | (refine wpList_one46 rfl _ rfl x rfl E.out.ok ?_; intro g7 w7 e7 N7 B7)
            | (refine wpList_app rfl _ _ rfl w2.heap.size _ out x g7 rfl rfl (OO.out.below B7.out) E.out.ok N7.out LL.out (Nat.le_trans HB.out B7.out.size) ?_; intro D8 m8 c8 w8 e8 O8 B8 G8))
          go_roundw
          case rel => exact ⟨j + 1, _, by omega, by go_num, O8.out, IN.out, BB.out.trans ((B7.out.mono HB.out).trans B8.out)⟩
          case measure => simp [intOf]; omega
    · obtain rfl : j = n1 := by omega
      have II := Lib.hid (show MI X (fnd Y) X.length out by rw [R1.out.len]; exact II.out)
      have HO := Lib.hid II.out.done
      go_wp2_with fail
      go_ret
      exact GivesR.own (by rw [← HJ.out, ← HO.out]; exact OO.out) (step_ B2.out BB.out)
end Go.Proofs.Ytkphpicfgpgkkaa
