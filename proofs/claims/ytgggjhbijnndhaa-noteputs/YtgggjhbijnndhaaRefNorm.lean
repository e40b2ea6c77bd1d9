/- The contracts of Norm, Find and Same of the reference. -/
import Derived.Test.YtgggjhbijnndhaaPut
namespace Go.Proofs.Ytgggjhbijnndhaa
open Go.RowKit

theorem norm_len_from : ∀ (l s : List Am), (l.foldl putR s).length ≤ s.length + l.length
  | [], s => by simp
  | a :: l, s => by
    have h1 := norm_len_from l (putR s a)
    have h2 : (putR s a).length ≤ s.length + 1 := by
      unfold putR
      split
      · exact put_len s a
      · omega
    simp only [List.foldl_cons, List.length_cons]
    omega
theorem norm_len (l : List Am) : (norm l).length ≤ l.length := by have := norm_len_from l []; rw [List.length_nil, Nat.zero_add] at this; exact this
theorem okR_take {l : List Am} (h : OkR l) (j : Nat) : OkR (l.take j) := h.sub (fun _ ha => List.mem_of_mem_take ha)
theorem rowV_nil (w : World) : RowV w none 0 0 [] := ⟨okR_nil, rfl, Nat.le_refl _, Nat.zero_le _, fun h => absurd h (Nat.lt_irrefl _)⟩
set_option maxRecDepth 100000 in
set_option maxHeartbeats 2000000 in
theorem refNorm_is (A : Option Addr) (n cap : Nat) (l : List Am) (w : World) (h : RowV w A n cap l) (hn : n ≤ 1000) : Calls Try.prog 23 #[.slice A n cap] w (GivesR w (norm l)) := by
  have H := Lib.hid h
  clear h
  cases hr : rightR l with
  | true =>
    have HR := Lib.hid hr
    clear hr
    go_enter Try.func23, Try.ntmps23
    go_wp2_with fail
    refine (refRightR_is A n cap l true _ H.out (by omega) HR).mono ?_
    rintro e w1 ⟨rfl, b1⟩
    have B1 := Lib.hid b1
    clear b1
    go_wp2_with fail
    go_ret
    exact ⟨⟨A, n, cap, rfl, by rw [norm_right H.out.ok HR.out]; exact H.out.below B1.out⟩, B1.out⟩
  | false =>
    have HR := Lib.hid hr
    clear hr
    go_enter Try.func23, Try.ntmps23
    go_wp2_with fail
    refine (refRightR_is A n cap l false _ H.out (by omega) HR).mono ?_
    rintro e w1 ⟨rfl, b1⟩
    have B1 := Lib.hid b1
    clear b1
    go_wp2_with fail
    go_loopw [3, 4] (fun v i wr => ∃ (j : Nat) (D : Option Addr) (m c : Nat), j ≤ n ∧ i = .int .i64 j ∧ v = .slice D m c ∧ RowV wr D m c (norm (l.take j)) ∧ Below w.heap.size w wr) (fun _ i _ => n - (intOf i).toNat)
    case atStart => exact ⟨0, none, 0, 0, Nat.zero_le _, rfl, rfl, rowV_nil _, B1.out⟩
    case round =>
      obtain ⟨j, D, m, c, hj, rfl, rfl, hv, hb⟩ := hrel
      have V := Lib.hid hv
      have BB := Lib.hid hb
      clear hv hb
      by_cases hlt : j < n
      · obtain ⟨G, p, hE⟩ := H.out.elem j hlt
        have E0 := Lib.hid hE
        have T := Lib.hid (take_getD (l := l) (j := j) (by have := H.out.len; omega))
        obtain ⟨x, hx⟩ : ∃ x, l.getD j azero = x := ⟨_, rfl⟩
        rw [hx] at E0 T
        clear hE hx
        have E := Lib.hid (E0.out.below BB.out)
        have hm : m ≤ 1000 := by
          have := norm_len (l.take j)
          rw [V.out.len, List.length_take] at this
          omega
        have MM := Lib.hid hm
        clear hm
        cases hr : x.right with
        | false =>
          have HX := Lib.hid hr
          have HS := Lib.hid (show norm (l.take (j + 1)) = norm (l.take j) by rw [T.out, norm_snoc, putR, if_neg (by rw [hr]; decide)])
          clear hr
          go_wp2_with (first
            | go_skip
            | refine wpList_index rfl _ _ rfl A n cap G p j x _ rfl rfl (by first | rfl | omega) E.out ?_
            | refine wpList_load_amx rfl _ rfl G p x rfl E.out.rg E.out.ok ?_)
          refine (refAright_is x false _ E.out.ok HX).mono ?_
          rintro e w2 ⟨rfl, b2⟩
          have B2 := Lib.hid b2
          clear b2
          go_wp2_with fail
          go_roundw
          case rel => exact ⟨j + 1, D, m, c, by omega, by go_num, rfl, by rw [HS.out]; exact V.out.below B2.out, step_ BB.out B2.out⟩
          case measure => simp [intOf]; omega
        | true =>
          have HX := Lib.hid hr
          have HS := Lib.hid (show norm (l.take (j + 1)) = put (norm (l.take j)) x by rw [T.out, norm_snoc, putR, if_pos hr])
          clear hr
          go_wp2_with (first
            | go_skip
            | refine wpList_index rfl _ _ rfl A n cap G p j x _ rfl rfl (by first | rfl | omega) E.out ?_
            | refine wpList_load_amx rfl _ rfl G p x rfl E.out.rg E.out.ok ?_)
          refine (refAright_is x true _ E.out.ok HX).mono ?_
          rintro e w2 ⟨rfl, b2⟩
          have B2 := Lib.hid b2
          have E2 := Lib.hid (E.out.below b2)
          clear b2
          go_wp2_with (first
            | go_skip
            | refine wpList_index rfl _ _ rfl A n cap G p j x _ rfl rfl (by first | rfl | omega) E2.out ?_
            | refine wpList_load_amx rfl _ rfl G p x rfl E2.out.rg E2.out.ok ?_)
          refine (put_is D m c (norm (l.take j)) x _ (V.out.below B2.out) (norm_st (okR_take H.out.ok j)) E2.out.ok MM.out).mono ?_
          rintro e w3 ⟨⟨D3, m3, c3, rfl, r3⟩, b3⟩
          have B3 := Lib.hid b3
          have R3 := Lib.hid r3
          clear b3 r3
          go_wp2_with fail
          go_roundw
          case rel => exact ⟨j + 1, D3, m3, c3, by omega, by go_num, rfl, by rw [HS.out]; exact R3.out, step_ BB.out (step_ B2.out B3.out)⟩
          case measure => simp [intOf]; omega
      · obtain rfl : j = n := by omega
        have HS := Lib.hid (show l.take j = l from List.take_of_length_le (by have := H.out.len; omega))
        go_wp2_with fail
        go_ret
        exact ⟨⟨D, m, c, rfl, by have := V.out; rw [HS.out] at this; exact this⟩, BB.out⟩
end Go.Proofs.Ytgggjhbijnndhaa
