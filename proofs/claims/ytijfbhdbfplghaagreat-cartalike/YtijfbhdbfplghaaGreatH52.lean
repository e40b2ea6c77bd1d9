/- The walk of the law CartAlike. -/
import Derived.Test.YtijfbhdbfplghaaGreatH50
import Derived.Test.YtijfbhdbfplghaaGreatH51
namespace Go.Proofs.YtijfbhdbfplghaaGreat
open Go.RowKit Go.Shelf
attribute [local go_sem] Oper.semAt_some
set_option maxRecDepth 100000 in
set_option maxHeartbeats 8000000 in
theorem cartAlike_is (A A2 : Option Addr) (n cap n2 cap2 : Nat) (a b : List Am) (c : Int) (w : World) (h1 : RowV w A n cap a) (h2 : RowV w A2 n2 cap2 b) (hnil : A = none → cap = 0) (hnil2 : A2 = none → cap2 = 0) (hc : 0 ≤ c ∧ c < 65536) :
    Calls Tryz.prog 5 #[.slice A n cap, .slice A2 n2 cap2, .int .u16 c] w fun e w' => e = .returned (.bool true) ∧ Below w.heap.size w w' := by
  have H1 := Lib.hid h1
  have H2 := Lib.hid h2
  clear h1 h2
  by_cases hn : 40 < n
  · have hc' : decide ((40 : Int) < (n : Int)) = true := decide_eq_true (by omega)
    go_enter Tryz.func5, Tryz.ntmps5
    go_wp2_with go_skip
    refine (alive_is _).mono ?_
    rintro e wz ⟨rfl, bz⟩
    have WZ := Lib.hid bz
    clear bz
    go_wp2_with go_skip
    go_ret
    exact ⟨rfl, WZ.out⟩
  have hc' : decide ((40 : Int) < (n : Int)) = false := decide_eq_false (by omega)
  by_cases hn2 : 40 < n2
  · have hc2 : decide ((40 : Int) < (n2 : Int)) = true := decide_eq_true (by omega)
    go_enter Tryz.func5, Tryz.ntmps5
    go_wp2_with go_skip
    refine (alive_is _).mono ?_
    rintro e wz ⟨rfl, bz⟩
    have WZ := Lib.hid bz
    clear bz
    go_wp2_with go_skip
    go_ret
    exact ⟨rfl, WZ.out⟩
  have hc2 : decide ((40 : Int) < (n2 : Int)) = false := decide_eq_false (by omega)
  have OA := Lib.hid H1.out.ok
  have OB := Lib.hid H2.out.ok
  have JE := Lib.hid (join_other OA.out OB.out)
  have OJ := Lib.hid (join_st OA.out OB.out).ok
  have JL := Lib.hid (show (join a b).length ≤ 80 by have h1 := norm_len (a ++ b); have h2 := H1.out.len; have h3 := H2.out.len; rw [List.length_append] at h1; unfold join; omega)
  obtain ⟨L, hL⟩ : ∃ L, linesQ (join a b) c = L := ⟨_, rfl⟩
  obtain ⟨t, ht⟩ : ∃ t, noteT (join a b) c = t := ⟨_, rfl⟩
  have HL := Lib.hid hL
  have HT := Lib.hid ht
  have XL := Lib.hid (show linesQ (b ++ a) c = L by rw [← hL]; exact lines_norm JE.out c)
  have XT := Lib.hid (show noteT (b ++ a) c = t by rw [← ht]; exact note_norm (OB.out.app OA.out) OJ.out JE.out c)
  have TL := Lib.hid (show t.length = 8 by rw [← ht]; exact (noteV_ok OJ.out c).tl)
  have LN := Lib.hid (And.intro H1.out.len H2.out.len)
  clear hL ht
  go_enter Tryz.func5, Tryz.ntmps5
  go_wp2_with go_skip
  refine (refJoin_is A A2 n n2 cap cap2 a b _ H1.out H2.out (by omega) (by omega)).mono ?_
  rintro e w1 ⟨⟨A3, n3, c3, rfl, r3⟩, b1⟩
  have R3 := Lib.hid r3
  have L3 := Lib.hid (show n3 ≤ 80 by have := r3.len; have := JL.out; omega)
  have P1 := Lib.hid (H1.out.below b1)
  have P2 := Lib.hid (H2.out.below b1)
  have B1 := Lib.hid b1
  clear r3 b1
  go_wp2_with (first
    | (refine wpList_row0 rfl rfl ?_; intro g4 w4 O4 Q4)
    | (refine wpList_app_row rfl _ _ rfl w1.heap.size _ [] b A2 n2 cap2 rfl rfl O4.out (P2.out.below Q4.out) hnil2 (by simp; omega) Q4.out.size ?_; intro E5 k5 c5 w5 e5 O5 Q5)
    | (refine wpList_app_row rfl _ _ rfl w1.heap.size _ ([] ++ b) a A n cap rfl rfl O5.out (P1.out.below (Q4.out.trans Q5.out)) hnil (by rw [List.nil_append, LN.out.2]; omega) (Nat.le_trans Q4.out.size Q5.out.size) ?_; intro E6 k6 c6 w6 e6 O6 Q6))
  have BX := Lib.hid ((Q4.out.trans Q5.out).trans Q6.out)
  have O7 := Lib.hid (show OwnR w6 w1.heap.size (.slice E6 k6 c6) (b ++ a) from O6.out)
  obtain ⟨A7, n7, c7, e7, r7⟩ := O7.out.rowAt
  injection e7 with e71 e72 e73
  subst e71 e72 e73
  have R7 := Lib.hid r7
  have L7 := Lib.hid (show k6 ≤ 600 by have h1 := r7.len; rw [List.length_append, LN.out.1, LN.out.2] at h1; omega)
  have B6 := Lib.hid (step_ B1.out BX.out)
  have R36 := Lib.hid (R3.out.below BX.out)
  have P16 := Lib.hid (P1.out.below BX.out)
  have P26 := Lib.hid (P2.out.below BX.out)
  clear r7 O7 O6 O5 O4 Q4 Q5 Q6 BX
  refine (ofR_is E6 k6 c6 (b ++ a) c t L _ R7.out L7.out hc XT XL).mono ?_
  rintro e w8 ⟨⟨D8, m8, p8, rfl, r8, l8⟩, b8⟩
  have R8 := Lib.hid r8
  have L8 := Lib.hid l8
  have B8 := Lib.hid (step_ B6.out b8)
  have R38 := Lib.hid (R36.out.below b8)
  have P18 := Lib.hid (P16.out.below b8)
  have P28 := Lib.hid (P26.out.below b8)
  clear r8 l8 b8
  go_wp2_with fail
  refine (ofR_is A3 n3 c3 (join a b) c t L _ R38.out (by have := L3.out; omega) hc HT HL).mono ?_
  rintro e w9 ⟨⟨D9, m9, p9, rfl, r9, l9⟩, b9⟩
  have R9 := Lib.hid r9
  have R89 := Lib.hid (R8.out.below b9)
  have B9 := Lib.hid (step_ B8.out b9)
  have R39 := Lib.hid (R38.out.below b9)
  have P19 := Lib.hid (P18.out.below b9)
  have P29 := Lib.hid (P28.out.below b9)
  clear r9 l9 b9
  go_wp2_with fail
  refine (sameR_is D8 D9 m8 m9 p8 p9 t L _ R89.out R9.out L8.out TL.out).mono ?_
  rintro e w10 ⟨rfl, b10⟩
  have B10 := Lib.hid (step_ B9.out b10)
  have R310 := Lib.hid (R39.out.below b10)
  have P110 := Lib.hid (P19.out.below b10)
  have P210 := Lib.hid (P29.out.below b10)
  clear b10
  go_wp2_with fail
  refine (refNorm_is A2 n2 cap2 b _ P210.out (by omega)).mono ?_
  rintro e w11 ⟨⟨A4, n4, c4, rfl, r4⟩, b11⟩
  have R4 := Lib.hid r4
  have J6 : n4 ≤ 80 := by have h1 := r4.len; have h2 := norm_len b; have h3 := P210.out.len; omega
  have B11 := Lib.hid (step_ B10.out b11)
  have R311 := Lib.hid (R310.out.below b11)
  have P111 := Lib.hid (P110.out.below b11)
  clear r4 b11
  go_wp2_with fail
  go_loopw [9] (fun i wr => ∃ j : Nat, j ≤ n4 ∧ i = .int .i64 (j : Int) ∧ (∀ x ∈ (norm b).take j, x.k.c ≠ c) ∧ Below w11.heap.size w11 wr) (fun i _ => n4 - (intOf i).toNat)
  case atStart => exact ⟨0, Nat.zero_le _, rfl, fun x hx => by simp at hx, Below.refl _ _⟩
  case round =>
    obtain ⟨j, hj, rfl, hf, hb⟩ := hrel
    have HF := Lib.hid hf
    have BB := Lib.hid hb
    clear hf hb
    by_cases hlt : j < n4
    · obtain ⟨G, p, hE⟩ := (R4.out.below BB.out).elem j hlt
      have TK := Lib.hid (take_getD (l := norm b) (j := j) (by have := R4.out.len; omega))
      obtain ⟨x, hx⟩ : ∃ x, (norm b).getD j azero = x := ⟨_, rfl⟩
      rw [hx] at hE TK
      have E := Lib.hid hE
      have c1 := hE.rg 1 (.int .u16 x.k.c) (ac1 x)
      clear hE hx
      by_cases hxc : x.k.c = c
      · have CE : (x.k.c == c) = true := by simp [hxc]
        clear hxc
        go_wp2_with (first
          | go_skip
          | (refine wpList_val rfl _ (exec_lt _ _ rfl (j : Int) (n4 : Int) true rfl rfl (decide_eq_true (by omega))) ?_)
          | refine wpList_index rfl _ _ rfl A4 n4 c4 G p j x _ rfl rfl (by first | rfl | omega) E.out ?_)
        refine (alive_is _).mono ?_
        rintro e wz ⟨rfl, bz⟩
        have WZ := Lib.hid (step_ (step_ B11.out BB.out) bz)
        clear bz
        go_wp2_with fail
        go_ret
        exact ⟨rfl, WZ.out⟩
      · have CE : (x.k.c == c) = false := by simp [hxc]
        have HN := Lib.hid hxc
        clear hxc
        go_wp2_with (first
          | go_skip
          | (refine wpList_val rfl _ (exec_lt _ _ rfl (j : Int) (n4 : Int) true rfl rfl (decide_eq_true (by omega))) ?_)
          | refine wpList_index rfl _ _ rfl A4 n4 c4 G p j x _ rfl rfl (by first | rfl | omega) E.out ?_)
        go_roundw
        case rel =>
          refine ⟨j + 1, by omega, by go_num, fun y hy => ?_, BB.out⟩
          rw [TK.out] at hy
          rcases List.mem_append.1 hy with hy | hy
          · exact HF.out y hy
          · rw [List.mem_singleton.1 hy]; exact HN.out
        case measure => simp [intOf]; omega
    · obtain rfl : j = n4 := by omega
      have HA := Lib.hid (show ∀ x ∈ norm b, x.k.c ≠ c from fun x hx => HF.out x (by rw [List.take_of_length_le (by have := R4.out.len; omega)]; exact hx))
      have AL := Lib.hid (show linesQ a c = L by rw [← lines_apart OA.out OB.out HA.out]; exact HL.out)
      have AT := Lib.hid (show noteT a c = t by rw [← note_apart OA.out OB.out HA.out]; exact HT.out)
      go_wp2_with fail
      refine (ofR_is A3 n3 c3 (join a b) c t L _ (R311.out.below BB.out) (by have := L3.out; omega) hc HT HL).mono ?_
      rintro e w12 ⟨⟨D12, m12, p12, rfl, r12, l12⟩, b12⟩
      have R12 := Lib.hid r12
      have L12 := Lib.hid l12
      have B12 := Lib.hid (step_ (step_ B11.out BB.out) b12)
      have P112 := Lib.hid ((P111.out.below BB.out).below b12)
      clear r12 l12 b12
      go_wp2_with fail
      refine (ofR_is A n cap a c t L _ P112.out (by omega) hc AT AL).mono ?_
      rintro e w13 ⟨⟨D13, m13, p13, rfl, r13, l13⟩, b13⟩
      have R13 := Lib.hid r13
      have R1213 := Lib.hid (R12.out.below b13)
      have B13 := Lib.hid (step_ B12.out b13)
      clear r13 l13 b13
      go_wp2_with fail
      refine (sameR_is D12 D13 m12 m13 p12 p13 t L _ R1213.out R13.out L12.out TL.out).mono ?_
      rintro e w14 ⟨rfl, b14⟩
      have B14 := Lib.hid (step_ B13.out b14)
      clear b14
      go_wp2_with fail
      refine (alive_is _).mono ?_
      rintro e w15 ⟨rfl, b15⟩
      have B15 := Lib.hid (step_ B14.out b15)
      clear b15
      go_wp2_with fail
      go_ret
      exact ⟨rfl, B15.out⟩
end Go.Proofs.YtijfbhdbfplghaaGreat
