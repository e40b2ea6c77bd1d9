/- The contracts of Stamp, Unstamp, isRep, isStamp, and of the conditions on values. -/
import Derived.Test.YtgggjhbijnndhaaAtoms
namespace Go.Proofs.Ytgggjhbijnndhaa
open Go.RowKit

theorem or8 (a b : Int) (h0 : 0 ≤ a) (h1 : a < 4294967296) (h2 : 0 ≤ b) (h3 : b < 256) : bits .or .u64 (a * 256) b = a * 256 + b := or_up a b 8 h0 (by omega) h2 h3 (by omega)
theorem stamp_is (n r x : Int) (w : World) (h0 : 0 ≤ n) (h1 : n < 4294967296) (h2 : 0 ≤ r) (h3 : r < 256) (hx : Hid (stamp n r = x)) :
    Calls Try.prog 26 #[.int .u32 n, .int .u8 r] w fun e w' => e = .returned (.int .u64 x) ∧ w = w' := by
  have H := Lib.hid (show bits .or .u64 (n * 256) r = x from (or8 n r h0 h1 h2 h3).trans hx.out)
  go_enter Try.func26, Try.ntmps26
  go_wp2
  go_ret
  exact ⟨ret_int H.out, rfl⟩
theorem unstamp_is (x a b : Int) (w : World) (ha : Hid (x / 256 % 4294967296 = a)) (hb : Hid (x % 256 = b)) :
    Calls Try.prog 20 #[.int .u64 x] w fun e w' => e = .returned (.tuple #[.int .u32 a, .int .u8 b]) ∧ w = w' := by
  go_enter Try.func20, Try.ntmps20
  go_wp2
  go_ret2
  refine ⟨?_, rfl⟩
  rw [← ha.out, ← hb.out]
  rfl
theorem aisRep_is (x : Int) (w : World) : Calls Try.prog 90 #[.int .u8 x] w fun e w' => e = .returned (.bool (decide (x < 16))) ∧ w = w' := by
  go_enter Try.func90, Try.ntmps90
  go_wp2
  go_ret
  exact ⟨rfl, rfl⟩
theorem isStamp_is (x : Int) (b : Bool) (w : World) (h0 : 0 ≤ x) (hb : Hid (stampB x = b)) :
    Calls Try.prog 81 #[.int .u64 x] w fun e w' => e = .returned (.bool b) ∧ w = w' := by
  have hh := hb.out
  unfold stampB at hh
  have hS := stamp_back h0
  obtain ⟨n, hn⟩ : ∃ n, x / 256 % 4294967296 = n := ⟨_, rfl⟩
  obtain ⟨r, hr⟩ : ∃ r, x % 256 = r := ⟨_, rfl⟩
  rw [hn, hr] at hh hS
  have n0 : 0 ≤ n := by omega
  have n1 : n < 4294967296 := by omega
  have r0 : 0 ≤ r := by omega
  have r1 : r < 256 := by omega
  have HN := Lib.hid hn
  have HR := Lib.hid hr
  clear hn hr hb
  by_cases h : x < 1099511627776
  · have e : stamp n r = x := hS.2 h
    have E := Lib.hid e
    rw [decide_eq_true h, Bool.true_and] at hh
    clear hS e h
    by_cases hn : 0 < n
    · rw [decide_eq_true hn, Bool.true_and] at hh
      subst hh
      go_enter Try.func81, Try.ntmps81
      go_wp2_with fail
      refine (unstamp_is x n r _ HN HR).mono ?_
      rintro e w1 ⟨rfl, rfl⟩
      go_wp2_with fail
      refine (stamp_is n r x _ n0 n1 r0 r1 E).mono ?_
      rintro e w1 ⟨rfl, rfl⟩
      go_wp2_with fail
      refine (aisRep_is r _).mono ?_
      rintro e w1 ⟨rfl, rfl⟩
      go_wp2_with fail
      go_ret
      exact ⟨rfl, rfl⟩
    · rw [decide_eq_false hn, Bool.false_and] at hh
      subst hh
      go_enter Try.func81, Try.ntmps81
      go_wp2_with fail
      refine (unstamp_is x n r _ HN HR).mono ?_
      rintro e w1 ⟨rfl, rfl⟩
      go_wp2_with fail
      refine (stamp_is n r x _ n0 n1 r0 r1 E).mono ?_
      rintro e w1 ⟨rfl, rfl⟩
      go_wp2_with fail
      go_ret
      exact ⟨rfl, rfl⟩
  · obtain ⟨y, hy⟩ : ∃ y, stamp n r = y := ⟨_, rfl⟩
    have hne : (y == x) = false := by
      rw [← hy]; exact beq_eq_false_iff_ne.2 fun q => h (hS.1 q)
    have E := Lib.hid hy
    rw [decide_eq_false h, Bool.false_and] at hh
    subst hh
    clear hS hy h
    go_enter Try.func81, Try.ntmps81
    go_wp2_with fail
    refine (unstamp_is x n r _ HN HR).mono ?_
    rintro e w1 ⟨rfl, rfl⟩
    go_wp2_with fail
    refine (stamp_is n r y _ n0 n1 r0 r1 E).mono ?_
    rintro e w1 ⟨rfl, rfl⟩
    go_wp2_with fail
    go_ret
    exact ⟨rfl, rfl⟩
theorem between1_is (lo hi : Int) (g h : Nat) (v : Vl) (b : Bool) (w : World) (hv : v.Ok) (hg : Blk w g 36 [.int .u64 lo]) (hh : Blk w h 36 [.int .u64 hi]) (hb : Hid (betweenB lo hi v = b)) :
    Calls Try.prog 89 #[.agg v.cells.toArray, .pointer (some ⟨g, 0, none⟩), .pointer (some ⟨h, 0, none⟩)] w fun e w' => e = .returned (.bool b) ∧ Below w.heap.size w w' := by
  have c1 := (hg.alloc (.cells v.cells.toArray 38)).cell (i := 0) rfl
  have c2 := (hh.alloc (.cells v.cells.toArray 38)).cell (i := 0) rfl
  have q := blk_alloc w 38 v.cells
  have c0 := q.cell (vc0 v)
  have R1 := Lib.hid q.vnm
  have B0 := Lib.hid (new_below w (.cells v.cells.toArray 38))
  have HV := Lib.hid hv
  have hh' := hb.out
  unfold betweenB at hh'
  clear q hv hg hh hb
  by_cases k1 : lo ≤ v.n
  · rw [decide_eq_true k1, Bool.true_and] at hh'
    by_cases k2 : v.n ≤ hi
    · rw [decide_eq_true k2, Bool.true_and] at hh'
      subst hh'
      go_enter Try.func89, Try.ntmps89
      go_wp2_with (refine wanted_on rfl ?_; refine wpList_load_nm rfl _ rfl w.heap.size 1 v.t rfl R1.out HV.out.tl ?_)
      refine (some_is v.t _ _ HV.out.tl (Lib.hid rfl)).mono ?_
      rintro e w1 ⟨rfl, b1⟩
      have B1 := Lib.hid (step_ B0.out b1)
      clear b1
      go_wp2_with fail
      go_ret
      exact ⟨rfl, B1.out⟩
    · rw [decide_eq_false k2, Bool.false_and] at hh'
      subst hh'
      go_enter Try.func89, Try.ntmps89
      go_wp2_with fail
      go_ret
      exact ⟨rfl, B0.out⟩
  · rw [decide_eq_false k1, Bool.false_and, Bool.false_and] at hh'
    subst hh'
    go_enter Try.func89, Try.ntmps89
    go_wp2_with fail
    go_ret
    exact ⟨rfl, B0.out⟩
theorem line_is (v : Vl) (b : Bool) (w : World) (hv : v.Ok) (hb : Hid (lineB v = b)) :
    Calls Try.prog 80 #[.agg v.cells.toArray] w fun e w' => e = .returned (.bool b) ∧ Below w.heap.size w w' := by
  have q := blk_alloc w 38 v.cells
  have c0 := q.cell (vc0 v)
  have Q0 := Lib.hid q
  have R1 := Lib.hid q.vnm
  have B0 := Lib.hid (new_below w (.cells v.cells.toArray 38))
  have HV := Lib.hid hv
  have hh := hb.out
  unfold lineB at hh
  clear q hv hb
  cases k1 : stampB v.n with
  | false =>
    have K1 := Lib.hid k1
    rw [k1, Bool.false_and] at hh
    subst hh
    clear k1
    go_enter Try.func80, Try.ntmps80
    go_wp2_with fail
    refine (isStamp_is v.n false _ HV.out.n0 K1).mono ?_
    rintro e w1 ⟨rfl, rfl⟩
    go_wp2_with fail
    go_ret
    exact ⟨rfl, B0.out⟩
  | true =>
    have K1 := Lib.hid k1
    rw [k1, Bool.true_and] at hh
    clear k1
    cases k2 : M.rightB v.t with
    | true =>
      have K2 := Lib.hid k2
      rw [k2, Bool.true_or] at hh
      subst hh
      clear k2
      go_enter Try.func80, Try.ntmps80
      go_wp2_with fail
      refine (isStamp_is v.n true _ HV.out.n0 K1).mono ?_
      rintro e w1 ⟨rfl, rfl⟩
      go_wp2_with (refine wanted_on rfl ?_; refine wpList_load_nm rfl _ rfl w.heap.size 1 v.t rfl R1.out HV.out.tl ?_)
      refine (right_is v.t true _ HV.out.tl (Lib.hid HV.out.tb) K2).mono ?_
      rintro e w1 ⟨rfl, b1⟩
      have B1 := Lib.hid (step_ B0.out b1)
      clear b1
      go_wp2_with fail
      go_ret
      exact ⟨rfl, B1.out⟩
    | false =>
      have K2 := Lib.hid k2
      rw [k2, Bool.false_or] at hh
      subst hh
      clear k2
      go_enter Try.func80, Try.ntmps80
      go_wp2_with fail
      refine (isStamp_is v.n true _ HV.out.n0 K1).mono ?_
      rintro e w1 ⟨rfl, rfl⟩
      go_wp2_with (refine wanted_on rfl ?_; refine wpList_load_nm rfl _ rfl w.heap.size 1 v.t rfl R1.out HV.out.tl ?_)
      refine (right_is v.t false _ HV.out.tl (Lib.hid HV.out.tb) K2).mono ?_
      rintro e w1 ⟨rfl, b1⟩
      have B1 := Lib.hid (step_ B0.out b1)
      have R2 := Lib.hid (Q0.out.below b1).vnm
      clear b1
      go_wp2_with (refine wanted_on rfl ?_; refine wpList_load_nm rfl _ rfl w.heap.size 1 v.t rfl R2.out HV.out.tl ?_)
      refine (some_is v.t _ _ HV.out.tl (Lib.hid rfl)).mono ?_
      rintro e w2 ⟨rfl, b2⟩
      have B2 := Lib.hid (step_ B1.out b2)
      clear b2
      go_wp2_with fail
      go_ret
      exact ⟨rfl, B2.out⟩
abbrev betweenF (g h : Nat) : Value := .func (.func 89) #[] #[.pointer (some ⟨g, 0, none⟩), .pointer (some ⟨h, 0, none⟩)]
theorem between_is (lo hi : Int) (w : World) : Calls Try.prog 79 #[.int .u64 lo, .int .u64 hi] w fun e w' => ∃ g h, e = .returned (betweenF g h) ∧ Blk w' g 36 [.int .u64 lo] ∧ Blk w' h 36 [.int .u64 hi] ∧ Below w.heap.size w w' := by
  have A := Lib.hid ((blk_alloc w 36 [.int .u64 lo]).alloc (.cells #[.int .u64 hi] 36))
  have B := Lib.hid (blk2 w (.cells #[.int .u64 lo] 36) 36 [.int .u64 hi])
  have C := Lib.hid (step_ (new_below w (.cells #[.int .u64 lo] 36)) (new_below _ (.cells #[.int .u64 hi] 36)))
  go_enter Try.func79, Try.ntmps79
  go_wp2_with fail
  go_ret
  exact ⟨_, _, rfl, A.out, B.out, C.out⟩
/-- The table of conditions. -/
structure Table (w : World) (g a b c d : Nat) : Prop where
  t : Blk w g 94 [.nilFunc, betweenF a b, betweenF c d, betweenF c d, .func (.func 80) #[] #[]]
  a : Blk w a 36 [.int .u64 1]
  b : Blk w b 36 [.int .u64 2]
  c : Blk w c 36 [.int .u64 1]
  d : Blk w d 36 [.int .u64 4294967295]
theorem Table.below {w w' : World} {g a b c d : Nat} (h : Table w g a b c d) (hb : Below w.heap.size w w') : Table w' g a b c d := ⟨h.t.below hb, h.a.below hb, h.b.below hb, h.c.below hb, h.d.below hb⟩
theorem values_is (w : World) : Calls Try.prog 67 #[] w fun e w' => ∃ g a b c d, e = .returned (.slice (some ⟨g, 0, none⟩) 5 5) ∧ Table w' g a b c d ∧ Below w.heap.size w w' := by
  go_enter Try.func67, Try.ntmps67
  go_wp2_with fail
  refine (between_is 1 2 _).mono ?_
  rintro e w1 ⟨a, b, rfl, ha, hb, h1⟩
  have A := Lib.hid ha
  have B := Lib.hid hb
  have B1 := Lib.hid h1
  clear ha hb h1
  go_wp2_with fail
  refine (between_is 1 4294967295 _).mono ?_
  rintro e w2 ⟨c, d, rfl, hc, hd, h2⟩
  have A2 := Lib.hid (A.out.below h2)
  have B2 := Lib.hid (B.out.below h2)
  have C2 := Lib.hid hc
  have D2 := Lib.hid hd
  have B3 := Lib.hid (step_ B1.out h2)
  clear hc hd h2
  go_wp2_with fail
  go_ret
  exact ⟨_, a, b, c, d, rfl, ⟨blk_alloc w2 94 _, A2.out.alloc _, B2.out.alloc _, C2.out.alloc _, D2.out.alloc _⟩, step_ B3.out (new_below _ _)⟩
end Go.Proofs.Ytgggjhbijnndhaa
