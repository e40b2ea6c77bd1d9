/- The contracts of Each of package lat, of the iterator that it returns, and of under. -/
import Derived.Test.YtihkncnhkljgpaaIns
import Derived.Shelf.Abstract
import Derived.Shelf.RegionOpen
import Derived.WalkKit
namespace Go.Proofs.Ytihkncnhkljgpaa
open Go.RowKit Go.Shelf
attribute [local go_sem] Oper.semAt_some

theorem yield_any {P : Program} {l : Nat} {args : Array Value} {W : World} {R : Ending → World → Prop} (h : YieldAt Fence.wide 9 P l args W R) (m : Nat) (r : Option Nat) :
    ∃ fn tmps assign body, (Instr.yield l args).run P W = .ok (.round l fn tmps assign body) W ∧ RoundIn { Fence.wide with round := r } m P l fn tmps assign body W R := by
  obtain ⟨fn, tmps, assign, body, hy, h1, h2⟩ := h
  exact ⟨fn, tmps, assign, body, hy, h1, fun c cs _ => h2 c cs (fun _ hd => by cases hd)⟩
theorem in_done {F : Fence} {n : Nat} {P : Program} {ops : Array Oper} {rest : List Oper} {a : Act} {w : World} {Q : Exit → Act → World → Prop} (h : wpListIn F n P ops Q rest a w) : wpList P ops (fun e a' w' => e = .normal ∧ wpListIn F n P ops Q rest a' w') [] a w := ⟨rfl, h⟩
/-- The call answers an iterator over the row. -/
def GivesE (w : World) (s : List Am) (e : Ending) (w' : World) : Prop := (∃ Bs D m c, e = .returned (.func (.func 36) #[] #[.pointer (some ⟨Bs, 0, none⟩)]) ∧ w.heap.size ≤ Bs ∧ Blk w' Bs 32 [.slice D m c] ∧ RowV w' D m c s) ∧ Below w.heap.size w w'
set_option maxRecDepth 100000 in
set_option maxHeartbeats 2000000 in
theorem each_is (A : Option Addr) (n cap : Nat) (l : List Am) (w : World) (h : RowV w A n cap l) (hn : n ≤ 600) : Calls Try.prog 28 #[.slice A n cap] w (GivesE w (norm l)) := by
  have H := Lib.hid h
  clear h
  go_enter Try.func28, Try.ntmps28
  go_wp2_with fail
  refine (norm_is A n cap l _ H.out hn).mono ?_
  rintro e w1 ⟨⟨D, m, c, rfl, r1⟩, b1⟩
  have R1 := Lib.hid r1
  have B1 := Lib.hid b1
  clear r1 b1
  go_wp2_with fail
  go_ret
  have B2 := new_below w1 (.cells #[.slice D m c] 32)
  exact ⟨⟨w1.heap.size, D, m, c, rfl, B1.out.size, blk_alloc w1 32 [.slice D m c], R1.out.below B2⟩, step_ B1.out B2⟩
theorem split_at {s : List Am} {j : Nat} (h : j < s.length) : s = s.take j ++ s.getD j azero :: s.drop (j + 1) := by
  rw [← drop_getD h, List.take_append_drop]
set_option maxRecDepth 100000 in
set_option maxHeartbeats 2000000 in
theorem each_seq (Bs : Nat) (D : Option Addr) (m c : Nat) (s : List Am) (hm : m ≤ 1000) : EachSeq 36 #[.pointer (some ⟨Bs, 0, none⟩)] (fun V => Blk V Bs 32 [.slice D m c] ∧ RowV V D m c s) s := by
  intro l J X W hJb hJn hY h0
  have hz := zero32
  have c0 := (hJn _ _ h0).1.cell (i := 0) rfl
  have HB := Lib.hid hJb
  have HN := Lib.hid hJn
  have HY := Lib.hid hY
  have H0 := Lib.hid h0
  clear hJb hJn hY h0
  refine (callsIn_wide (n := 10)).1 ?_
  refine callsIn_of_wp Try.func36 rfl trivial ?_ rfl
  simp only [Try.ntmps36, List.size_toArray, List.length_cons, List.length_nil, Nat.reduceAdd, Nat.reduceSub, Array.replicate_succ, Array.replicate_zero, List.push_toArray, List.append_toArray, List.nil_append, List.cons_append]
  gi_wp2
  gi_loopw [7] (fun i wr => ∃ (j : Nat), j ≤ m ∧ i = .int .i64 j ∧ J (s.take j) wr) (fun i _ => (m - (intOf i).toNat))
  case atStart => exact ⟨0, Nat.zero_le _, rfl, H0.out⟩
  case round =>
    obtain ⟨j, hj, rfl, hJ⟩ := hrel
    have JJ := Lib.hid hJ
    clear hJ
    by_cases hlt : j < m
    · obtain ⟨G, p, hE⟩ := (HN.out _ _ JJ.out).2.elem j hlt
      have E := Lib.hid hE
      have SP := Lib.hid (split_at (s := s) (j := j) (by have := (HN.out _ _ JJ.out).2.len; omega))
      have TK := Lib.hid (take_getD (l := s) (j := j) (by have := (HN.out _ _ JJ.out).2.len; omega))
      obtain ⟨x, hx⟩ : ∃ x, s.getD j azero = x := ⟨_, rfl⟩
      rw [hx] at E SP TK
      clear hE hx
      have Z := Lib.hid (blk_alloc wr 67 azero.cells)
      gi_wp2_with (first
        | (refine in_plain wide_no rfl (by intro c h; cases h) ?_; refine wpList_index rfl _ _ rfl D m c G p j x _ rfl rfl (by first | rfl | omega) E.out ?_; refine in_done ?_)
        | (refine in_plain wide_no rfl (by intro c h; cases h) ?_; refine wpList_load_amx rfl _ rfl G p x rfl E.out.rg E.out.ok ?_; refine in_done ?_)
        | (refine in_plain wide_no rfl (by intro c h; cases h) ?_; refine wpList_store_am rfl _ _ rfl wr.heap.size azero x rfl rfl Z.out azero_ok E.out.ok ?_; intro w2 N2 O2; refine in_done ?_)
        | (refine in_plain wide_no rfl (by intro c h; cases h) ?_; refine wpList_load_ky rfl _ rfl wr.heap.size 0 x.k rfl N2.out.ak E.out.ok.k.ml ?_; refine in_done ?_)
        | (refine in_plain wide_no rfl (by intro c h; cases h) ?_; refine wpList_load_vl rfl _ rfl wr.heap.size 12 x.v rfl (N2.out.av E.out.ok) E.out.ok.v.tl ?_; refine in_done ?_; obtain ⟨fn, tmps, assign, body, hy, hR⟩ := yield_any (HY.out (s.take j) x _ w2 SP.out (HB.out _ _ _ JJ.out (box_below O2.out))) 9 none))
      refine hR.mono ?_
      rintro e W3 (⟨rfl, hJ3⟩ | ⟨rfl, hX3⟩)
      · have J3 := Lib.hid hJ3
        clear hJ3 hR hy
        gi_wp2
        go_roundw
        case rel => exact ⟨j + 1, by omega, by go_num, by rw [TK.out]; exact J3.out⟩
        case measure => simp [intOf]; omega
      · have X3 := Lib.hid hX3
        clear hX3 hR hy
        gi_wp2
        refine bodyPost_ret (results_none rfl _ _ _) rfl ?_
        exact ⟨⟨_, rfl⟩, .inr X3.out⟩
    · obtain rfl : j = m := by omega
      have TK := Lib.hid (show s.take j = s from List.take_of_length_le (by have := (HN.out _ _ JJ.out).2.len; omega))
      gi_wp2
      go_end0
      exact ⟨⟨_, rfl⟩, .inl (by have := JJ.out; rw [TK.out] at this; exact this)⟩
end Go.Proofs.Ytihkncnhkljgpaa
