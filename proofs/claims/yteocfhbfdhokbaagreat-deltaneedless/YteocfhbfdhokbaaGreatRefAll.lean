/- The contract of Join of the reference. The contracts of Find and All of the reference; rows of rows. -/
import Derived.Test.YteocfhbfdhokbaaGreatRefNorm
namespace Go.Proofs.YteocfhbfdhokbaaGreat
open Go.RowKit

def JI (X Y : List Am) (i k : Nat) (out : List Am) : Prop := out ++ merge (X.drop i) (Y.drop k) = merge X Y
theorem merge_nil (s : List Am) : merge s [] = s := by cases s <;> simp [merge]
theorem nil_merge (t : List Am) : merge [] t = t := by simp [merge]
theorem merge_len : ∀ (n : Nat) (s t : List Am), s.length + t.length = n → (merge s t).length ≤ n := by
  intro n
  induction n using Nat.strongRecOn with
  | ind n ih =>
    intro s t hn
    match s, t with
    | [], t => rw [nil_merge]; simp at hn; omega
    | x :: s, [] => rw [merge_nil]; simp at hn ⊢; omega
    | x :: s, y :: t =>
      have h1 := ih (s.length + (y :: t).length) (by simp at hn ⊢; omega) s (y :: t) rfl
      have h2 := ih ((x :: s).length + t.length) (by simp at hn ⊢; omega) (x :: s) t rfl
      have h3 := ih (s.length + t.length) (by simp at hn ⊢; omega) s t rfl
      rw [merge]
      simp only [List.length_cons] at *
      split
      · simp only [List.length_cons]; omega
      · split
        · simp only [List.length_cons]; omega
        · simp only [List.length_cons]; omega
section
variable {X Y : List Am} {i k : Nat} {out : List Am} {x y : Am}
theorem JI.len (h : JI X Y i k out) : out.length ≤ X.length + Y.length := by
  have := merge_len _ X Y rfl
  rw [← h, List.length_append] at this; omega
theorem JI.a (h : JI X Y i k out) (hx : X.drop i = x :: X.drop (i + 1)) (hy : Y.drop k = []) : JI X Y (i + 1) k (out ++ [x]) := by
  unfold JI at *; rw [← h, hx, hy, merge_nil, merge_nil]; simp
theorem JI.b (h : JI X Y i k out) (hx : X.drop i = []) (hy : Y.drop k = y :: Y.drop (k + 1)) : JI X Y i (k + 1) (out ++ [y]) := by
  unfold JI at *; rw [← h, hx, hy, nil_merge, nil_merge]; simp
theorem JI.lt (h : JI X Y i k out) (hx : X.drop i = x :: X.drop (i + 1)) (hy : Y.drop k = y :: Y.drop (k + 1)) (hl : x.k.less y.k = true) : JI X Y (i + 1) k (out ++ [x]) := by
  unfold JI at *; rw [← h, hx, hy, merge, if_pos hl]; simp
theorem JI.gt (h : JI X Y i k out) (hx : X.drop i = x :: X.drop (i + 1)) (hy : Y.drop k = y :: Y.drop (k + 1)) (hl : x.k.less y.k = false) (hg : y.k.less x.k = true) : JI X Y i (k + 1) (out ++ [y]) := by
  unfold JI at *; rw [← h, hx, hy, merge, if_neg (by rw [hl]; decide), if_pos hg]; simp
theorem JI.eq (h : JI X Y i k out) (hx : X.drop i = x :: X.drop (i + 1)) (hy : Y.drop k = y :: Y.drop (k + 1)) (hl : x.k.less y.k = false) (hg : y.k.less x.k = false) : JI X Y (i + 1) (k + 1) (out ++ [⟨x.k, more x.v y.v⟩]) := by
  unfold JI at *; rw [← h, hx, hy, merge, if_neg (by rw [hl]; decide), if_neg (by rw [hg]; decide)]; simp
theorem JI.done (h : JI X Y X.length Y.length out) : out = merge X Y := by
  unfold JI at *; rw [← h, List.drop_length, List.drop_length, merge_nil, List.append_nil]
end
set_option maxRecDepth 100000 in
set_option maxHeartbeats 4000000 in
theorem refJoin_is (A B : Option Addr) (n m cap cap2 : Nat) (a b : List Am) (w : World) (h : RowV w A n cap a) (h2 : RowV w B m cap2 b) (hn : n ≤ 1000) (hm : m ≤ 1000) : Calls Tryz.prog 47 #[.slice A n cap, .slice B m cap2] w (GivesR w (join a b)) := by
  have HJ := Lib.hid (merge_join h.ok h2.ok)
  have H := Lib.hid h
  have J := Lib.hid h2
  clear h h2
  go_enter Tryz.func47, Tryz.ntmps47
  go_wp2_with fail
  refine (refNorm_is A n cap a _ H.out hn).mono ?_
  rintro e w1 ⟨⟨A1, n1, c1, rfl, r1⟩, b1⟩
  have B1 := Lib.hid b1
  have R1' := Lib.hid r1
  clear b1 r1
  go_wp2_with fail
  refine (refNorm_is B m cap2 b _ (J.out.below B1.out) hm).mono ?_
  rintro e w2 ⟨⟨A2, n2, c2, rfl, r2⟩, b2⟩
  have B2 := Lib.hid (step_ B1.out b2)
  have R1 := Lib.hid (R1'.out.below b2)
  have R2 := Lib.hid r2
  have hn1 : n1 ≤ 1000 := by have := norm_len a; rw [R1.out.len, H.out.len] at this; omega
  have hn2 : n2 ≤ 1000 := by have := norm_len b; rw [R2.out.len, J.out.len] at this; omega
  clear b2 r2 R1'
  obtain ⟨X, hX⟩ : ∃ X, norm a = X := ⟨_, rfl⟩
  obtain ⟨Y, hY⟩ : ∃ Y, norm b = Y := ⟨_, rfl⟩
  rw [hX] at R1 HJ
  rw [hY] at R2 HJ
  clear hX hY H J
  go_wp2_with fail
  go_loopw [5, 6, 7] (fun v p q wr => ∃ (i k : Nat) (out : List Am), i ≤ n1 ∧ k ≤ n2 ∧ p = .int .i64 i ∧ q = .int .i64 k ∧ OwnR wr w2.heap.size v out ∧ JI X Y i k out ∧ Below w2.heap.size w2 wr) (fun _ p q _ => (n1 - (intOf p).toNat) + (n2 - (intOf q).toNat))
  case atStart => exact ⟨0, 0, [], Nat.zero_le _, Nat.zero_le _, rfl, rfl, ownR_nil _ _, rfl, Below.refl _ _⟩
  case round =>
    obtain ⟨i, k, out, hi, hk, rfl, rfl, ho, hj, hb⟩ := hrel
    have OO := Lib.hid ho
    have II := Lib.hid hj
    have BB := Lib.hid hb
    have LL := Lib.hid (show out.length ≤ 5000 by have := hj.len; have := R1.out.len; have := R2.out.len; omega)
    clear ho hj hb
    by_cases hki : k < n2
    · obtain ⟨G2, p2, hF⟩ := R2.out.elem k hki
      have F0 := Lib.hid hF
      have U := Lib.hid (drop_getD (l := Y) (j := k) (by have := R2.out.len; omega))
      obtain ⟨y, hy⟩ : ∃ y, Y.getD k azero = y := ⟨_, rfl⟩
      rw [hy] at F0 U
      clear hF hy
      have F := Lib.hid (F0.out.below BB.out)
      have hkn : ((k : Int) == (n2 : Int)) = false := beq_eq_false_iff_ne.2 (by omega)
      by_cases hii : i < n1
      · obtain ⟨G, p, hE⟩ := R1.out.elem i hii
        have E0 := Lib.hid hE
        have T := Lib.hid (drop_getD (l := X) (j := i) (by have := R1.out.len; omega))
        obtain ⟨x, hx⟩ : ∃ x, X.getD i azero = x := ⟨_, rfl⟩
        rw [hx] at E0 T
        clear hE hx
        have E := Lib.hid (E0.out.below BB.out)
        have hin : ((i : Int) == (n1 : Int)) = false := beq_eq_false_iff_ne.2 (by omega)
        cases hl : x.k.less y.k with
        | true =>
          have HL := Lib.hid hl
          have IN := Lib.hid (II.out.lt T.out U.out hl)
          clear hl
          go_wp2_with fail
          refine region_later (by kernel_rfl) (by kernel_rfl) ?_
          go_big_quiet_step (fail)
          go_big_quiet_step (fail)
          go_big_quiet_step (fail)
          go_big_quiet_step (fail)
          go_big_quiet_step (fail)
          go_big_quiet_step (fail)
          go_big_quiet_step (fail)
          go_big_quiet_step (fail)
          go_big_quiet_step (fail)
          go_big_quiet_step (fail)
          go_big_quiet_step (fail)
          go_big_quiet_step (fail)
          (go_big_quiet_want; refine quiet_index _ _ rfl A1 n1 c1 G p i x _ rfl rfl (by first | rfl | omega) E.out ?_; go_simp; go_big_quiet_on)
          go_big_quiet_step (fail)
          (go_big_quiet_want; refine quiet_load_kyx G p x.k _ rfl rfl (range_ak E.out.rg) E.out.blk E.out.ok.k.ml ?_; go_simp; go_big_quiet_on)
          go_big_quiet_step (fail)
          go_big_quiet_step (fail)
          (go_big_quiet_want; refine quiet_index _ _ rfl A2 n2 c2 G2 p2 k y _ rfl rfl (by first | rfl | omega) F.out ?_; go_simp; go_big_quiet_on)
          go_big_quiet_step (fail)
          (go_big_quiet_want; refine quiet_load_kyx G2 p2 y.k _ rfl rfl (range_ak F.out.rg) F.out.blk F.out.ok.k.ml ?_; go_simp; go_big_quiet_on)
          go_big_quiet_step (exact later_call (refLess_is x.k y.k true _ E.out.ok.k F.out.ok.k HL))
          go_big_quiet_step (fail)
          go_big_quiet_step (fail)
          go_big_quiet_step (fail)
          refine wpQuiet_nil ?_
          intro v3 hw3
          replace E := Lib.hid (E.out.below hw3)
          replace F := Lib.hid (F.out.below hw3)
          replace OO := Lib.hid (OO.out.below hw3)
          replace BB := Lib.hid (BB.out.trans (hw3.mono BB.out.size))
          clear hw3
          have HB := Lib.hid BB.out.size
          go_wp2_with (first
            | go_skip
            | refine wpList_index rfl _ _ rfl A1 n1 c1 G p i x _ rfl rfl (by first | rfl | omega) E.out ?_
            | refine wpList_load_amx rfl _ rfl G p x rfl E.out.rg E.out.ok ?_
            | (refine wpList_one46 rfl _ rfl x rfl E.out.ok ?_; intro g6 w6 e6 N6 B6)
            | (refine wpList_app rfl _ _ rfl w2.heap.size _ out x g6 rfl rfl (OO.out.below B6.out) E.out.ok N6.out LL.out (Nat.le_trans HB.out B6.out.size) ?_; intro D7 m7 c7 w7 e7 O7 B7 G7))
          go_roundw
          case rel => exact ⟨i + 1, k, _, by omega, by omega, by go_num, by go_num, O7.out, IN.out, BB.out.trans ((B6.out.mono HB.out).trans B7.out)⟩
          case measure => simp [intOf]; omega
        | false =>
          have HL := Lib.hid hl
          cases hg : y.k.less x.k with
          | true =>
            have HG := Lib.hid hg
            have IN := Lib.hid (II.out.gt T.out U.out hl hg)
            clear hl hg
            go_wp2_with fail
            refine region_later (by kernel_rfl) (by kernel_rfl) ?_
            go_big_quiet_step (fail)
            go_big_quiet_step (fail)
            go_big_quiet_step (fail)
            go_big_quiet_step (fail)
            go_big_quiet_step (fail)
            go_big_quiet_step (fail)
            go_big_quiet_step (fail)
            go_big_quiet_step (fail)
            go_big_quiet_step (fail)
            go_big_quiet_step (fail)
            go_big_quiet_step (fail)
            go_big_quiet_step (fail)
            (go_big_quiet_want; refine quiet_index _ _ rfl A1 n1 c1 G p i x _ rfl rfl (by first | rfl | omega) E.out ?_; go_simp; go_big_quiet_on)
            go_big_quiet_step (fail)
            (go_big_quiet_want; refine quiet_load_kyx G p x.k _ rfl rfl (range_ak E.out.rg) E.out.blk E.out.ok.k.ml ?_; go_simp; go_big_quiet_on)
            go_big_quiet_step (fail)
            go_big_quiet_step (fail)
            (go_big_quiet_want; refine quiet_index _ _ rfl A2 n2 c2 G2 p2 k y _ rfl rfl (by first | rfl | omega) F.out ?_; go_simp; go_big_quiet_on)
            go_big_quiet_step (fail)
            (go_big_quiet_want; refine quiet_load_kyx G2 p2 y.k _ rfl rfl (range_ak F.out.rg) F.out.blk F.out.ok.k.ml ?_; go_simp; go_big_quiet_on)
            go_big_quiet_step (exact later_call (refLess_is x.k y.k false _ E.out.ok.k F.out.ok.k HL))
            go_big_quiet_step (fail)
            go_big_quiet_step (fail)
            go_big_quiet_step (fail)
            refine wpQuiet_nil ?_
            intro v3 hw3
            replace E := Lib.hid (E.out.below hw3)
            replace F := Lib.hid (F.out.below hw3)
            replace OO := Lib.hid (OO.out.below hw3)
            replace BB := Lib.hid (BB.out.trans (hw3.mono BB.out.size))
            clear hw3
            go_wp2_with fail
            refine region_later (by kernel_rfl) (by kernel_rfl) ?_
            go_big_quiet_step (fail)
            go_big_quiet_step (fail)
            go_big_quiet_step (fail)
            go_big_quiet_step (fail)
            go_big_quiet_step (fail)
            go_big_quiet_step (fail)
            go_big_quiet_step (fail)
            (go_big_quiet_want; refine quiet_index _ _ rfl A2 n2 c2 G2 p2 k y _ rfl rfl (by first | rfl | omega) F.out ?_; go_simp; go_big_quiet_on)
            go_big_quiet_step (fail)
            (go_big_quiet_want; refine quiet_load_kyx G2 p2 y.k _ rfl rfl (range_ak F.out.rg) F.out.blk F.out.ok.k.ml ?_; go_simp; go_big_quiet_on)
            go_big_quiet_step (fail)
            go_big_quiet_step (fail)
            (go_big_quiet_want; refine quiet_index _ _ rfl A1 n1 c1 G p i x _ rfl rfl (by first | rfl | omega) E.out ?_; go_simp; go_big_quiet_on)
            go_big_quiet_step (fail)
            (go_big_quiet_want; refine quiet_load_kyx G p x.k _ rfl rfl (range_ak E.out.rg) E.out.blk E.out.ok.k.ml ?_; go_simp; go_big_quiet_on)
            go_big_quiet_step (exact later_call (refLess_is y.k x.k true _ F.out.ok.k E.out.ok.k HG))
            go_big_quiet_step (fail)
            go_big_quiet_step (fail)
            refine wpQuiet_nil ?_
            intro v4 hw4
            replace E := Lib.hid (E.out.below hw4)
            replace F := Lib.hid (F.out.below hw4)
            replace OO := Lib.hid (OO.out.below hw4)
            replace BB := Lib.hid (BB.out.trans (hw4.mono BB.out.size))
            clear hw4
            have HB := Lib.hid BB.out.size
            go_wp2_with (first
              | go_skip
              | refine wpList_index rfl _ _ rfl A2 n2 c2 G2 p2 k y _ rfl rfl (by first | rfl | omega) F.out ?_
              | refine wpList_load_amx rfl _ rfl G2 p2 y rfl F.out.rg F.out.ok ?_
              | (refine wpList_one46 rfl _ rfl y rfl F.out.ok ?_; intro g6 w6 e6 N6 B6)
              | (refine wpList_app rfl _ _ rfl w2.heap.size _ out y g6 rfl rfl (OO.out.below B6.out) F.out.ok N6.out LL.out (Nat.le_trans HB.out B6.out.size) ?_; intro D7 m7 c7 w7 e7 O7 B7 G7))
            go_roundw
            case rel => exact ⟨i, k + 1, _, by omega, by omega, by go_num, by go_num, O7.out, IN.out, BB.out.trans ((B6.out.mono HB.out).trans B7.out)⟩
            case measure => simp [intOf]; omega
          | false =>
            have HG := Lib.hid hg
            have IN := Lib.hid (II.out.eq T.out U.out hl hg)
            clear hl hg
            go_wp2_with fail
            refine region_later (by kernel_rfl) (by kernel_rfl) ?_
            go_big_quiet_step (fail)
            go_big_quiet_step (fail)
            go_big_quiet_step (fail)
            go_big_quiet_step (fail)
            go_big_quiet_step (fail)
            go_big_quiet_step (fail)
            go_big_quiet_step (fail)
            go_big_quiet_step (fail)
            go_big_quiet_step (fail)
            go_big_quiet_step (fail)
            go_big_quiet_step (fail)
            go_big_quiet_step (fail)
            (go_big_quiet_want; refine quiet_index _ _ rfl A1 n1 c1 G p i x _ rfl rfl (by first | rfl | omega) E.out ?_; go_simp; go_big_quiet_on)
            go_big_quiet_step (fail)
            (go_big_quiet_want; refine quiet_load_kyx G p x.k _ rfl rfl (range_ak E.out.rg) E.out.blk E.out.ok.k.ml ?_; go_simp; go_big_quiet_on)
            go_big_quiet_step (fail)
            go_big_quiet_step (fail)
            (go_big_quiet_want; refine quiet_index _ _ rfl A2 n2 c2 G2 p2 k y _ rfl rfl (by first | rfl | omega) F.out ?_; go_simp; go_big_quiet_on)
            go_big_quiet_step (fail)
            (go_big_quiet_want; refine quiet_load_kyx G2 p2 y.k _ rfl rfl (range_ak F.out.rg) F.out.blk F.out.ok.k.ml ?_; go_simp; go_big_quiet_on)
            go_big_quiet_step (exact later_call (refLess_is x.k y.k false _ E.out.ok.k F.out.ok.k HL))
            go_big_quiet_step (fail)
            go_big_quiet_step (fail)
            go_big_quiet_step (fail)
            refine wpQuiet_nil ?_
            intro v3 hw3
            replace E := Lib.hid (E.out.below hw3)
            replace F := Lib.hid (F.out.below hw3)
            replace OO := Lib.hid (OO.out.below hw3)
            replace BB := Lib.hid (BB.out.trans (hw3.mono BB.out.size))
            clear hw3
            go_wp2_with fail
            refine region_later (by kernel_rfl) (by kernel_rfl) ?_
            go_big_quiet_step (fail)
            go_big_quiet_step (fail)
            go_big_quiet_step (fail)
            go_big_quiet_step (fail)
            go_big_quiet_step (fail)
            go_big_quiet_step (fail)
            go_big_quiet_step (fail)
            (go_big_quiet_want; refine quiet_index _ _ rfl A2 n2 c2 G2 p2 k y _ rfl rfl (by first | rfl | omega) F.out ?_; go_simp; go_big_quiet_on)
            go_big_quiet_step (fail)
            (go_big_quiet_want; refine quiet_load_kyx G2 p2 y.k _ rfl rfl (range_ak F.out.rg) F.out.blk F.out.ok.k.ml ?_; go_simp; go_big_quiet_on)
            go_big_quiet_step (fail)
            go_big_quiet_step (fail)
            (go_big_quiet_want; refine quiet_index _ _ rfl A1 n1 c1 G p i x _ rfl rfl (by first | rfl | omega) E.out ?_; go_simp; go_big_quiet_on)
            go_big_quiet_step (fail)
            (go_big_quiet_want; refine quiet_load_kyx G p x.k _ rfl rfl (range_ak E.out.rg) E.out.blk E.out.ok.k.ml ?_; go_simp; go_big_quiet_on)
            go_big_quiet_step (exact later_call (refLess_is y.k x.k false _ F.out.ok.k E.out.ok.k HG))
            go_big_quiet_step (fail)
            go_big_quiet_step (fail)
            refine wpQuiet_nil ?_
            intro v4 hw4
            replace E := Lib.hid (E.out.below hw4)
            replace F := Lib.hid (F.out.below hw4)
            replace OO := Lib.hid (OO.out.below hw4)
            replace BB := Lib.hid (BB.out.trans (hw4.mono BB.out.size))
            clear hw4
            go_wp2_with fail
            have HB := Lib.hid BB.out.size
            have S1 := Lib.hid (show Below w2.heap.size v4 v4.drew from below_drew (Below.refl _ _))
            refine wp_region_noPanic ?_
            refine wp_region_held_drew (S := fun W => Below w2.heap.size v4 W) (by kernel_rfl) S1.out (fun _ => ?_)
            refine wpAnyH_take (i := 0) (oi := { dst := some 22, op := Go.Op.move (Go.Operand.tmp 5), type := 28, pos := _, after := #[], guard := none }) (v := ?_) rfl (by kernel_rfl) (by kernel_rfl) (by kernel_rfl) (fun _ _ _ h => h) (Or.inl ⟨by rfl, ?_⟩) S1.out ?_
            rotate_left
            · intro W hW; (go_simp; try with_reducible rfl)
            try simp only [Act.put, List.setIfInBounds_toArray, List.set_cons_zero, List.set_cons_succ]
            refine wpAnyH_take (i := 1) (oi := { dst := some 23, op := Go.Op.move (Go.Operand.tmp 0), type := 28, pos := _, after := #[], guard := none }) (v := ?_) rfl (by kernel_rfl) (by kernel_rfl) (by kernel_rfl) (fun _ _ _ h => h) (Or.inl ⟨by rfl, ?_⟩) S1.out ?_
            rotate_left
            · intro W hW; (go_simp; try with_reducible rfl)
            try simp only [Act.put, List.setIfInBounds_toArray, List.set_cons_zero, List.set_cons_succ]
            refine wpAnyH_take (i := 2) (oi := { dst := some 24, op := Go.Op.move (Go.Operand.tmp 6), type := 3, pos := _, after := #[], guard := none }) (v := ?_) rfl (by kernel_rfl) (by kernel_rfl) (by kernel_rfl) (fun _ _ _ h => h) (Or.inl ⟨by rfl, ?_⟩) S1.out ?_
            rotate_left
            · intro W hW; (go_simp; try with_reducible rfl)
            try simp only [Act.put, List.setIfInBounds_toArray, List.set_cons_zero, List.set_cons_succ]
            refine wpAnyH_take (i := 3) (oi := { dst := some 25, op := Go.Op.indexAddr 28 (Go.Operand.tmp 23) (Go.Operand.tmp 24), type := 0, pos := _, after := #[{ on := 1, ground := Go.Ground.data }, { on := 2, ground := Go.Ground.data }], guard := none }) (v := .pointer (some ⟨G, p, none⟩)) rfl (by kernel_rfl) (by kernel_rfl) (by kernel_rfl) (fun _ _ _ h => h) (Or.inl ⟨by rfl, fun W hW => exec_index _ _ rfl A1 n1 c1 G p i x _ rfl rfl (by first | rfl | omega) E.out⟩) S1.out ?_
            try simp only [Act.put, List.setIfInBounds_toArray, List.set_cons_zero, List.set_cons_succ]
            refine wpAnyH_take (i := 4) (oi := { dst := some 26, op := Go.Op.fieldAddr 46 (Go.Operand.tmp 25) 0, type := 0, pos := _, after := #[{ on := 3, ground := Go.Ground.data }], guard := none }) (v := ?_) rfl (by kernel_rfl) (by kernel_rfl) (by kernel_rfl) (fun _ _ _ h => h) (Or.inl ⟨by rfl, ?_⟩) S1.out ?_
            rotate_left
            · intro W hW; (go_simp; try with_reducible rfl)
            try simp only [Act.put, List.setIfInBounds_toArray, List.set_cons_zero, List.set_cons_succ]
            refine wpAnyH_take (i := 5) (oi := { dst := some 27, op := Go.Op.load 41 (Go.Operand.tmp 26), type := 41, pos := _, after := #[{ on := 4, ground := Go.Ground.data }], guard := none }) (v := .agg x.k.cells.toArray) rfl (by kernel_rfl) (by kernel_rfl) (by kernel_rfl) (fun _ _ _ h => h) (yieldsIf_load_mid (by rfl) 41 (.tmp 26) rfl G p rfl x.k.cells _ (fun W hW => range_ak (E0.out.below (BB.out.trans hW)).rg) Tryz.underlying41 rfl (size27 E.out.ok.k.ml)) S1.out ?_
            try simp only [Act.put, List.setIfInBounds_toArray, List.set_cons_zero, List.set_cons_succ]
            refine wpAnyH_take (i := 6) (oi := { dst := some 28, op := Go.Op.move (Go.Operand.tmp 0), type := 28, pos := _, after := #[], guard := none }) (v := ?_) rfl (by kernel_rfl) (by kernel_rfl) (by kernel_rfl) (fun _ _ _ h => h) (Or.inl ⟨by rfl, ?_⟩) S1.out ?_
            rotate_left
            · intro W hW; (go_simp; try with_reducible rfl)
            try simp only [Act.put, List.setIfInBounds_toArray, List.set_cons_zero, List.set_cons_succ]
            refine wpAnyH_take (i := 7) (oi := { dst := some 29, op := Go.Op.move (Go.Operand.tmp 6), type := 3, pos := _, after := #[], guard := none }) (v := ?_) rfl (by kernel_rfl) (by kernel_rfl) (by kernel_rfl) (fun _ _ _ h => h) (Or.inl ⟨by rfl, ?_⟩) S1.out ?_
            rotate_left
            · intro W hW; (go_simp; try with_reducible rfl)
            try simp only [Act.put, List.setIfInBounds_toArray, List.set_cons_zero, List.set_cons_succ]
            refine wpAnyH_take (i := 8) (oi := { dst := some 30, op := Go.Op.indexAddr 28 (Go.Operand.tmp 28) (Go.Operand.tmp 29), type := 0, pos := _, after := #[{ on := 6, ground := Go.Ground.data }, { on := 7, ground := Go.Ground.data }], guard := none }) (v := .pointer (some ⟨G, p, none⟩)) rfl (by kernel_rfl) (by kernel_rfl) (by kernel_rfl) (fun _ _ _ h => h) (Or.inl ⟨by rfl, fun W hW => exec_index _ _ rfl A1 n1 c1 G p i x _ rfl rfl (by first | rfl | omega) E.out⟩) S1.out ?_
            try simp only [Act.put, List.setIfInBounds_toArray, List.set_cons_zero, List.set_cons_succ]
            refine wpAnyH_take (i := 9) (oi := { dst := some 31, op := Go.Op.fieldAddr 46 (Go.Operand.tmp 30) 1, type := 0, pos := _, after := #[{ on := 8, ground := Go.Ground.data }], guard := none }) (v := ?_) rfl (by kernel_rfl) (by kernel_rfl) (by kernel_rfl) (fun _ _ _ h => h) (Or.inl ⟨by rfl, ?_⟩) S1.out ?_
            rotate_left
            · intro W hW; (go_simp; try with_reducible rfl)
            try simp only [Act.put, List.setIfInBounds_toArray, List.set_cons_zero, List.set_cons_succ]
            refine wpAnyH_take (i := 10) (oi := { dst := some 32, op := Go.Op.load 44 (Go.Operand.tmp 31), type := 44, pos := _, after := #[{ on := 9, ground := Go.Ground.data }], guard := none }) (v := .agg x.v.cells.toArray) rfl (by kernel_rfl) (by kernel_rfl) (by kernel_rfl) (fun _ _ _ h => h) (yieldsIf_load_mid (by rfl) 44 (.tmp 31) rfl G (p + 12) rfl x.v.cells _ (fun W hW => range_av (E0.out.below (BB.out.trans hW)).rg E.out.ok) Tryz.underlying44 rfl (size30 E.out.ok.v.tl)) S1.out ?_
            try simp only [Act.put, List.setIfInBounds_toArray, List.set_cons_zero, List.set_cons_succ]
            refine wpAnyH_take (i := 11) (oi := { dst := some 33, op := Go.Op.move (Go.Operand.tmp 1), type := 28, pos := _, after := #[], guard := none }) (v := ?_) rfl (by kernel_rfl) (by kernel_rfl) (by kernel_rfl) (fun _ _ _ h => h) (Or.inl ⟨by rfl, ?_⟩) S1.out ?_
            rotate_left
            · intro W hW; (go_simp; try with_reducible rfl)
            try simp only [Act.put, List.setIfInBounds_toArray, List.set_cons_zero, List.set_cons_succ]
            refine wpAnyH_take (i := 12) (oi := { dst := some 34, op := Go.Op.move (Go.Operand.tmp 7), type := 3, pos := _, after := #[], guard := none }) (v := ?_) rfl (by kernel_rfl) (by kernel_rfl) (by kernel_rfl) (fun _ _ _ h => h) (Or.inl ⟨by rfl, ?_⟩) S1.out ?_
            rotate_left
            · intro W hW; (go_simp; try with_reducible rfl)
            try simp only [Act.put, List.setIfInBounds_toArray, List.set_cons_zero, List.set_cons_succ]
            refine wpAnyH_take (i := 13) (oi := { dst := some 35, op := Go.Op.indexAddr 28 (Go.Operand.tmp 33) (Go.Operand.tmp 34), type := 0, pos := _, after := #[{ on := 11, ground := Go.Ground.data }, { on := 12, ground := Go.Ground.data }], guard := none }) (v := .pointer (some ⟨G2, p2, none⟩)) rfl (by kernel_rfl) (by kernel_rfl) (by kernel_rfl) (fun _ _ _ h => h) (Or.inl ⟨by rfl, fun W hW => exec_index _ _ rfl A2 n2 c2 G2 p2 k y _ rfl rfl (by first | rfl | omega) F.out⟩) S1.out ?_
            try simp only [Act.put, List.setIfInBounds_toArray, List.set_cons_zero, List.set_cons_succ]
            refine wpAnyH_take (i := 14) (oi := { dst := some 36, op := Go.Op.fieldAddr 46 (Go.Operand.tmp 35) 1, type := 0, pos := _, after := #[{ on := 13, ground := Go.Ground.data }], guard := none }) (v := ?_) rfl (by kernel_rfl) (by kernel_rfl) (by kernel_rfl) (fun _ _ _ h => h) (Or.inl ⟨by rfl, ?_⟩) S1.out ?_
            rotate_left
            · intro W hW; (go_simp; try with_reducible rfl)
            try simp only [Act.put, List.setIfInBounds_toArray, List.set_cons_zero, List.set_cons_succ]
            refine wpAnyH_take (i := 15) (oi := { dst := some 37, op := Go.Op.load 44 (Go.Operand.tmp 36), type := 44, pos := _, after := #[{ on := 14, ground := Go.Ground.data }], guard := none }) (v := .agg y.v.cells.toArray) rfl (by kernel_rfl) (by kernel_rfl) (by kernel_rfl) (fun _ _ _ h => h) (yieldsIf_load_mid (by rfl) 44 (.tmp 36) rfl G2 (p2 + 12) rfl y.v.cells _ (fun W hW => range_av (F0.out.below (BB.out.trans hW)).rg F.out.ok) Tryz.underlying44 rfl (size30 F.out.ok.v.tl)) S1.out ?_
            try simp only [Act.put, List.setIfInBounds_toArray, List.set_cons_zero, List.set_cons_succ]
            refine wpAnyH_ready (rs := [16]) (by kernel_rfl) (by simp) ?_
            refine AllReadyH.cons (o := { dst := some 38, op := Go.Op.call { callee := Go.Callee.value (Go.Operand.func 66), args := #[Go.Operand.tmp 32, Go.Operand.tmp 37], argTypes := #[44, 44] }, type := 44, pos := _, after := #[{ on := 10, ground := Go.Ground.data }, { on := 15, ground := Go.Ground.data }], guard := none }) rfl (fun K hK => ?_) AllReadyH.nil
            go_simp
            refine (refMore_is x.v y.v _ E.out.ok.v F.out.ok.v).mono ?_
            rintro e w3 ⟨rfl, b3⟩
            have S3 := Lib.hid (S1.out.trans (b3.mono HB.out))
            have O3 := Lib.hid (OO.out.drew.below b3)
            have H3 := Lib.hid (Nat.le_trans HB.out b3.size)
            clear b3
            go_wp2_with fail
            refine hK.out _ _ ?_ (fun _ => ?_)
            · exact S3.out
            clear hK K
            try simp only [Act.put, List.setIfInBounds_toArray, List.set_cons_zero, List.set_cons_succ]
            refine wpAnyH_take (i := 17) (oi := { dst := some 39, op := Go.Op.build 46 #[(0, Go.Operand.tmp 27), (1, Go.Operand.tmp 38)], type := 46, pos := _, after := #[{ on := 5, ground := Go.Ground.data }, { on := 16, ground := Go.Ground.data }], guard := none }) (v := .agg (⟨x.k, more x.v y.v⟩ : Am).cells.toArray) rfl (by kernel_rfl) (by kernel_rfl) (by kernel_rfl) (fun _ _ _ h => h) (Or.inl ⟨by rfl, fun W hW => exec_build 46 _ rfl [(0, .agg x.k.cells.toArray), (1, .agg (more x.v y.v).cells.toArray)] rfl _ (built46 x.k (more x.v y.v) E.out.ok.k.ml (more_ok E.out.ok.v F.out.ok.v).tl)⟩) S3.out ?_
            try simp only [Act.put, List.setIfInBounds_toArray, List.set_cons_zero, List.set_cons_succ]
            refine wpAnyH_ready (rs := [18]) (by kernel_rfl) (by simp) ?_
            refine ready_one46 (o := { dst := some 40, op := Go.Op.buildSlice 28 1 #[(0, Go.Operand.tmp 39)], type := 28, pos := _, after := #[{ on := 17, ground := Go.Ground.data }], guard := none }) rfl rfl _ rfl ⟨x.k, more x.v y.v⟩ rfl ⟨E.out.ok.k, more_ok E.out.ok.v F.out.ok.v⟩ (fun g4 w4 e4 N4 b4 => ?_) AllReadyH.nil
            refine ⟨S3.out.trans (b4.mono H3.out), ?_⟩
            try simp only [Act.put, List.setIfInBounds_toArray, List.set_cons_zero, List.set_cons_succ]
            refine wpAnyH_ready (rs := [19]) (by kernel_rfl) (by simp) ?_
            refine ready_app46 (o := { dst := some 41, op := Go.Op.call { callee := Go.Callee.builtin Go.Builtin.append, args := #[Go.Operand.tmp 22, Go.Operand.tmp 40], argTypes := #[28, 28] }, type := 28, pos := _, after := #[{ on := 0, ground := Go.Ground.data }, { on := 18, ground := Go.Ground.data }, { on := 16, ground := Go.Ground.chain }], guard := none }) rfl rfl _ _ rfl w2.heap.size _ out ⟨x.k, more x.v y.v⟩ g4 rfl rfl (O3.out.below b4) ⟨E.out.ok.k, more_ok E.out.ok.v F.out.ok.v⟩ N4 LL.out (Nat.le_trans H3.out b4.size) (fun D5 m5 c5 w5 e5 O5 b5 G5 => ?_) AllReadyH.nil
            refine ⟨(S3.out.trans (b4.mono H3.out)).trans b5, ?_⟩
            try simp only [Act.put, List.setIfInBounds_toArray, List.set_cons_zero, List.set_cons_succ]
            have S5 := Lib.hid ((S3.out.trans (b4.mono H3.out)).trans b5)
            have O5' := Lib.hid O5
            clear S3 O3 H3 N4 b4 O5 b5 G5
            refine wpAnyH_take (i := 20) (oi := { dst := some 5, op := Go.Op.assign (Go.Operand.tmp 41), type := 28, pos := _, after := #[{ on := 19, ground := Go.Ground.data }, { on := 19, ground := Go.Ground.chain }, { on := 0, ground := Go.Ground.phase }, { on := 1, ground := Go.Ground.phase }, { on := 2, ground := Go.Ground.phase }, { on := 3, ground := Go.Ground.phase }, { on := 4, ground := Go.Ground.phase }, { on := 5, ground := Go.Ground.phase }, { on := 6, ground := Go.Ground.phase }, { on := 7, ground := Go.Ground.phase }, { on := 8, ground := Go.Ground.phase }, { on := 9, ground := Go.Ground.phase }, { on := 10, ground := Go.Ground.phase }, { on := 11, ground := Go.Ground.phase }, { on := 12, ground := Go.Ground.phase }, { on := 13, ground := Go.Ground.phase }, { on := 14, ground := Go.Ground.phase }, { on := 15, ground := Go.Ground.phase }, { on := 16, ground := Go.Ground.phase }, { on := 17, ground := Go.Ground.phase }, { on := 18, ground := Go.Ground.phase }, { on := 19, ground := Go.Ground.phase }], guard := none }) (v := ?_) rfl (by kernel_rfl) (by kernel_rfl) (by kernel_rfl) (fun _ _ _ h => h) (Or.inl ⟨by rfl, ?_⟩) S5.out ?_
            rotate_left
            · intro W hW; (go_simp; try with_reducible rfl)
            try simp only [Act.put, List.setIfInBounds_toArray, List.set_cons_zero, List.set_cons_succ]
            refine wpAnyH_done (by kernel_rfl) ?_ _
            refine NoPanic.normal ?_
            go_wp2_with fail
            go_roundw
            case rel => exact ⟨i + 1, k + 1, _, by omega, by omega, by go_num, by go_num, O5'.out, IN.out, BB.out.trans S5.out⟩
            case measure => simp [intOf]; omega
      · obtain rfl : i = n1 := by omega
        have IN := Lib.hid (II.out.b (List.drop_of_length_le (by have := R1.out.len; omega)) U.out)
        go_wp2_with fail
        refine region_later (by kernel_rfl) (by kernel_rfl) ?_
        go_big_quiet_step (fail)
        go_big_quiet_step (fail)
        go_big_quiet_step (fail)
        go_big_quiet_step (fail)
        go_big_quiet_step (fail)
        go_big_quiet_step (fail)
        go_big_quiet_step (fail)
        go_big_quiet_step (fail)
        go_big_quiet_step (fail)
        go_big_quiet_step (fail)
        go_big_quiet_step (fail)
        go_big_quiet_step (fail)
        go_big_quiet_step (fail)
        go_big_quiet_step (fail)
        go_big_quiet_step (fail)
        go_big_quiet_step (fail)
        go_big_quiet_step (fail)
        go_big_quiet_step (fail)
        go_big_quiet_step (fail)
        go_big_quiet_step (fail)
        go_big_quiet_step (fail)
        go_big_quiet_step (fail)
        go_big_quiet_step (fail)
        go_big_quiet_step (fail)
        refine wpQuiet_nil ?_
        intro v3 hw3
        replace F := Lib.hid (F.out.below hw3)
        replace OO := Lib.hid (OO.out.below hw3)
        replace BB := Lib.hid (BB.out.trans (hw3.mono BB.out.size))
        clear hw3
        go_wp2_with fail
        refine region_later (by kernel_rfl) (by kernel_rfl) ?_
        go_big_quiet_step (fail)
        go_big_quiet_step (fail)
        go_big_quiet_step (fail)
        go_big_quiet_step (fail)
        go_big_quiet_step (fail)
        go_big_quiet_step (fail)
        go_big_quiet_step (fail)
        go_big_quiet_step (fail)
        go_big_quiet_step (fail)
        go_big_quiet_step (fail)
        go_big_quiet_step (fail)
        go_big_quiet_step (fail)
        go_big_quiet_step (fail)
        go_big_quiet_step (fail)
        go_big_quiet_step (fail)
        go_big_quiet_step (fail)
        go_big_quiet_step (fail)
        go_big_quiet_step (fail)
        refine wpQuiet_nil ?_
        intro v4 hw4
        replace F := Lib.hid (F.out.below hw4)
        replace OO := Lib.hid (OO.out.below hw4)
        replace BB := Lib.hid (BB.out.trans (hw4.mono BB.out.size))
        clear hw4
        have HB := Lib.hid BB.out.size
        go_wp2_with (first
          | go_skip
          | refine wpList_index rfl _ _ rfl A2 n2 c2 G2 p2 k y _ rfl rfl (by first | rfl | omega) F.out ?_
          | refine wpList_load_amx rfl _ rfl G2 p2 y rfl F.out.rg F.out.ok ?_
          | (refine wpList_one46 rfl _ rfl y rfl F.out.ok ?_; intro g6 w6 e6 N6 B6)
          | (refine wpList_app rfl _ _ rfl w2.heap.size _ out y g6 rfl rfl (OO.out.below B6.out) F.out.ok N6.out LL.out (Nat.le_trans HB.out B6.out.size) ?_; intro D7 m7 c7 w7 e7 O7 B7 G7))
        go_roundw
        case rel => exact ⟨i, k + 1, _, by omega, by omega, by go_num, by go_num, O7.out, IN.out, BB.out.trans ((B6.out.mono HB.out).trans B7.out)⟩
        case measure => simp [intOf]; omega
    · obtain rfl : k = n2 := by omega
      by_cases hii : i < n1
      · obtain ⟨G, p, hE⟩ := R1.out.elem i hii
        have E0 := Lib.hid hE
        have T := Lib.hid (drop_getD (l := X) (j := i) (by have := R1.out.len; omega))
        obtain ⟨x, hx⟩ : ∃ x, X.getD i azero = x := ⟨_, rfl⟩
        rw [hx] at E0 T
        clear hE hx
        have E := Lib.hid (E0.out.below BB.out)
        have IN := Lib.hid (II.out.a T.out (List.drop_of_length_le (by have := R2.out.len; omega)))
        go_wp2_with fail
        refine region_later (by kernel_rfl) (by kernel_rfl) ?_
        go_big_quiet_step (fail)
        go_big_quiet_step (fail)
        go_big_quiet_step (fail)
        go_big_quiet_step (fail)
        go_big_quiet_step (fail)
        go_big_quiet_step (fail)
        go_big_quiet_step (fail)
        go_big_quiet_step (fail)
        go_big_quiet_step (fail)
        go_big_quiet_step (fail)
        go_big_quiet_step (fail)
        go_big_quiet_step (fail)
        go_big_quiet_step (fail)
        go_big_quiet_step (fail)
        go_big_quiet_step (fail)
        go_big_quiet_step (fail)
        go_big_quiet_step (fail)
        go_big_quiet_step (fail)
        go_big_quiet_step (fail)
        go_big_quiet_step (fail)
        go_big_quiet_step (fail)
        go_big_quiet_step (fail)
        go_big_quiet_step (fail)
        go_big_quiet_step (fail)
        refine wpQuiet_nil ?_
        intro v3 hw3
        replace E := Lib.hid (E.out.below hw3)
        replace OO := Lib.hid (OO.out.below hw3)
        replace BB := Lib.hid (BB.out.trans (hw3.mono BB.out.size))
        clear hw3
        have HB := Lib.hid BB.out.size
        go_wp2_with (first
          | go_skip
          | refine wpList_index rfl _ _ rfl A1 n1 c1 G p i x _ rfl rfl (by first | rfl | omega) E.out ?_
          | refine wpList_load_amx rfl _ rfl G p x rfl E.out.rg E.out.ok ?_
          | (refine wpList_one46 rfl _ rfl x rfl E.out.ok ?_; intro g6 w6 e6 N6 B6)
          | (refine wpList_app rfl _ _ rfl w2.heap.size _ out x g6 rfl rfl (OO.out.below B6.out) E.out.ok N6.out LL.out (Nat.le_trans HB.out B6.out.size) ?_; intro D7 m7 c7 w7 e7 O7 B7 G7))
        go_roundw
        case rel => exact ⟨i + 1, k, _, by omega, by omega, by go_num, by go_num, O7.out, IN.out, BB.out.trans ((B6.out.mono HB.out).trans B7.out)⟩
        case measure => simp [intOf]; omega
      · obtain rfl : i = n1 := by omega
        have II := Lib.hid (show JI X Y X.length Y.length out by rw [R1.out.len, R2.out.len]; exact II.out)
        have HO := Lib.hid II.out.done
        go_wp2_with fail
        go_ret
        exact GivesR.own (by rw [← HJ.out, ← HO.out]; exact OO.out) (step_ B2.out BB.out)
end Go.Proofs.YteocfhbfdhokbaaGreat
namespace Go.Proofs.YteocfhbfdhokbaaGreat
open Go.RowKit

theorem ready_store_vl {ops : Array Oper} {Q : Exit → Act → World → Prop} {md : Region.Mode} {S : World → Prop} {fuel : Nat} {listed : Array Bool} {a : Act} {w : World} {i : Nat} {o : Oper} {rs : List Nat} (ho : ops[i]? = some o) (hg : o.guard = none) (x y : Operand) (hop : o.op = .store 44 x y) (g : Nat) (j k : Vl) (hx : a.eval x = .pointer (some ⟨g, 0, none⟩)) (hy : a.eval y = .agg k.cells.toArray) (hb : Blk w g 44 j.cells) (hj : j.t.length = 8) (hm : k.t.length = 8)
    (h : ∀ w', Blk w' g 44 k.cells → Only g w w' → S w' ∧ wpAnyH Tryz.prog md ops Q S fuel (listed.setIfInBounds i true) (a.put o.dst undef) w')
    (hs : AllReadyH Tryz.prog md ops Q S fuel listed a w rs) : AllReadyH Tryz.prog md ops Q S fuel listed a w (i :: rs) := by
  refine AllReadyH.cons ho (fun K hK => ?_) hs
  have hw : Region.wanted o (yielded ops a.tmps) = true := by simp [Region.wanted, hg]
  rw [if_pos hw]
  have hl : j.cells.length = k.cells.length := by rw [vcells_len hj, vcells_len hm]
  have hB := Blk.setCells k.cells 0 w j.cells hb
  rw [setL_all _ _ hl] at hB
  have H := h _ hB (Only.setCells k.cells 0 w)
  refine wp_store_mid 44 x y hop g 0 k.cells.toArray hx hy (hb.there 0 _ (by rw [List.size_toArray, hl]; omega)) (by rw [List.size_toArray]; exact size30 hm) (one30 k) ?_
  exact hK.out _ _ H.1 (fun _ => H.2)

/-- A slice of rows. -/
structure RowsV (w : World) (A : Option Addr) (n cap : Nat) (ls : List (List Am)) : Prop where
  len : ls.length = n
  le : n ≤ cap
  most : cap ≤ maxLen
  at_ : 0 < n → ∃ G off, A = some ⟨G, off, none⟩ ∧ G < w.heap.size ∧ ∀ i, i < n → ∃ D m c, w.cell? ⟨G, off + i, none⟩ = some (.slice D m c) ∧ RowV w D m c (ls.getD i [])
theorem RowsV.below {w w' : World} {A : Option Addr} {n cap : Nat} {ls : List (List Am)} (h : RowsV w A n cap ls) (hb : Below w.heap.size w w') : RowsV w' A n cap ls :=
  ⟨h.len, h.le, h.most, fun h0 => by
    obtain ⟨G, off, ha, hG, hr⟩ := h.at_ h0
    refine ⟨G, off, ha, Nat.lt_of_lt_of_le hG hb.size, fun i hi => ?_⟩
    obtain ⟨D, m, c, h1, h2⟩ := hr i hi
    exact ⟨D, m, c, (hb.cell (p := ⟨G, off + i, none⟩) hG).trans h1, h2.below hb⟩⟩
theorem RowsV.ok {w : World} {A : Option Addr} {n cap : Nat} {ls : List (List Am)} (h : RowsV w A n cap ls) : ∀ x ∈ ls, OkR x := fun x hx => by
  obtain ⟨i, hi, rfl⟩ := List.getElem_of_mem hx
  obtain ⟨G, off, _, _, hr⟩ := h.at_ (by have := h.len; omega)
  obtain ⟨D, m, c, _, h2⟩ := hr i (by have := h.len; omega)
  have e : ls.getD i [] = ls[i] := by simp [List.getD, List.getElem?_eq_getElem hi]
  rw [e] at h2
  exact h2.ok
/-- Where the row i of the rows lies. -/
structure RElem (w : World) (A : Option Addr) (n G p i : Nat) (D : Option Addr) (m c : Nat) (l : List Am) : Prop where
  ad : ∃ off, A = some ⟨G, off, none⟩ ∧ p = off + i
  lt : i < n
  blk : G < w.heap.size
  cell : w.cell? ⟨G, p, none⟩ = some (.slice D m c)
  row : RowV w D m c l
theorem RowsV.elem {w : World} {A : Option Addr} {n cap : Nat} {ls : List (List Am)} (h : RowsV w A n cap ls) (i : Nat) (hi : i < n) : ∃ G p D m c, RElem w A n G p i D m c (ls.getD i []) := by
  obtain ⟨G, off, ha, hG, hr⟩ := h.at_ (by omega)
  obtain ⟨D, m, c, h1, h2⟩ := hr i hi
  exact ⟨G, off + i, D, m, c, ⟨off, ha, rfl⟩, hi, hG, h1, h2⟩
theorem RElem.below {w w' : World} {A : Option Addr} {n G p i : Nat} {D : Option Addr} {m c : Nat} {l : List Am} (h : RElem w A n G p i D m c l) (hb : Below w.heap.size w w') : RElem w' A n G p i D m c l :=
  ⟨h.ad, h.lt, Nat.lt_of_lt_of_le h.blk hb.size, (hb.cell (p := ⟨G, p, none⟩) h.blk).trans h.cell, h.row.below hb⟩
theorem info22 : (Tryz.prog.info? 28).map (·.size) = some 1 := by kernel_rfl
theorem sizeOf22 (w : World) : (sizeOf 28).run Tryz.prog w = .ok 1 w := by
  cases hq : Tryz.prog.info? 28 with
  | none => have := info22; simp [hq] at this
  | some i =>
    have hi : i.size = 1 := by have := info22; simpa [hq] using this
    simp [sizeOf, typeInfo, hq, hi]
theorem exec_index40 {o : Oper} {a : Act} {w : World} (x y : Operand) (ho : o.op = .indexAddr 22 x y) (A : Option Addr) (n cap G p i : Nat) (D : Option Addr) (m c : Nat) (l : List Am) (z : Int) (hx : a.eval x = .slice A n cap) (hy : a.eval y = .int .i64 z) (hz : z = (i : Int)) {W : World} (h : RElem W A n G p i D m c l) :
    (execOp a.eval o).run Tryz.prog w = .ok (.value (.pointer (some ⟨G, p, none⟩))) w := by
  obtain ⟨off, hA, rfl⟩ := h.ad
  have hi := h.lt
  have hr : (Instr.indexAt 22 (.slice (some ⟨G, off, none⟩) n cap) (.int .i64 (i : Int))).run Tryz.prog w = .ok (.pointer (some ⟨G, off + i, none⟩)) w := by
    simp only [Instr.indexAt, asIntOf, Sem.run_bind, Sem.run_pure, Result.andThen_ok, run_underlying Tryz.underlying22]
    rw [if_pos ⟨by omega, by omega⟩]
    simp [Addr.add]
  unfold execOp
  simp only [ho, hx, hy, hz, hA, Sem.run_bind, hr, Result.andThen_ok, Sem.run_pure]
theorem wpList_index40 {ops : Array Oper} {rest : List Oper} {op : Oper} {a : Act} {w : World} {Q : Exit → Act → World → Prop} (hgd : op.guard = none) (x y : Operand) (ho : op.op = .indexAddr 22 x y) (A : Option Addr) (n cap G p i : Nat) (D : Option Addr) (m c : Nat) (l : List Am) (z : Int) (hx : a.eval x = .slice A n cap) (hy : a.eval y = .int .i64 z) (hz : z = (i : Int)) {W : World} (h : RElem W A n G p i D m c l)
    (hk : wpList Tryz.prog ops Q rest (a.put op.dst (.pointer (some ⟨G, p, none⟩))) w) : wpList Tryz.prog ops Q (op :: rest) a w :=
  wpList_val hgd _ (exec_index40 x y ho A n cap G p i D m c l z hx hy hz h) hk
theorem takeL_getD {ls : List (List Am)} {j : Nat} (h : j < ls.length) : ls.take (j + 1) = ls.take j ++ [ls.getD j []] := by
  rw [List.take_add_one]
  simp [List.getD, List.getElem?_eq_getElem h]
/-- Rows are few, and short. -/
def FewR (ls : List (List Am)) : Prop := ls.length ≤ 100 ∧ ls.flatten.length ≤ 600
theorem FewR.take {ls : List (List Am)} (h : FewR ls) (j : Nat) : (ls.take j).flatten.length ≤ 600 := by
  have e : ls.flatten = (ls.take j).flatten ++ (ls.drop j).flatten := by rw [← List.flatten_append, List.take_append_drop]
  have := h.2
  rw [e, List.length_append] at this
  omega
theorem FewR.at_ {ls : List (List Am)} (h : FewR ls) (j : Nat) : (ls.getD j []).length ≤ 600 := by
  by_cases hj : j < ls.length
  · have e := h.take (j + 1)
    rw [takeL_getD hj, List.flatten_append, List.flatten_singleton, List.length_append] at e
    omega
  · simp only [List.getD, List.getElem?_eq_none (by omega : ls.length ≤ j), Option.getD_none]
    simp
end Go.Proofs.YteocfhbfdhokbaaGreat
