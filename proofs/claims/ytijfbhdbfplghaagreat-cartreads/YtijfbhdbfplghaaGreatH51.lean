/- The walk of the law CartReads. What the proofs of this seat's statements share: keys, rows of atoms and rows of rows that came in. A name that came in. Of and Same of package cart, as the laws use them. Rows appended to rows of one's own; rows that came in, and that a row without memory has no room. -/
import Derived.Test.YtijfbhdbfplghaaGreatH50
import Derived.Test.YtijfbhdbfplghaaGreatRows
import Derived.Test.YtijfbhdbfplghaaGreatH10
import Derived.Test.YtijfbhdbfplghaaGreatH22
import Derived.ProofKit
import Derived.OpenShut
import Derived.Deep.Slices
import Derived.Test.YtijfbhdbfplghaaGreatH48
import Derived.Test.YtijfbhdbfplghaaGreatH39
import Derived.Maps.AppendAt
import Derived.Laws.AppendOwnNone
namespace Go.Proofs.YtijfbhdbfplghaaGreat
open Go.RowKit Go.Shelf
attribute [local go_sem] Oper.semAt_some
set_option maxRecDepth 100000 in
set_option maxHeartbeats 8000000 in
theorem cartReads_is (A : Option Addr) (n cap : Nat) (a : List Am) (c : Int) (m : List Int) (w : World) (h : RowV w A n cap a) (hc : 0 ≤ c ∧ c < 65536) (hm : NOk m) :
    Calls Tryz.prog 3 #[.slice A n cap, .int .u16 c, .agg (nm m)] w fun e w' => e = .returned (.bool true) ∧ Below w.heap.size w w' := by
  have N0 := Lib.hid (blk_alloc w 25 (nmL m))
  have B0 := Lib.hid (new_below w (.cells (nm m) 25))
  have H := Lib.hid (h.below B0.out)
  have HM := Lib.hid hm
  clear h hm
  by_cases hcn : 60 < n
  · have hc' : decide ((60 : Int) < (n : Int)) = true := decide_eq_true (by omega)
    go_enter Tryz.func3, Tryz.ntmps3
    go_wp2_with go_skip
    refine (alive_is _).mono ?_
    rintro e wz ⟨rfl, bz⟩
    have WZ := Lib.hid (step_ B0.out bz)
    clear bz
    go_wp2_with go_skip
    go_ret
    exact ⟨rfl, WZ.out⟩
  have hc' : decide ((60 : Int) < (n : Int)) = false := decide_eq_false (by omega)
  obtain ⟨q, hq⟩ : ∃ q, quaN a c m = q := ⟨_, rfl⟩
  obtain ⟨b, hb⟩ : ∃ b, presT a c m = b := ⟨_, rfl⟩
  obtain ⟨P, hP⟩ : ∃ P, piecesQ a c = P := ⟨_, rfl⟩
  obtain ⟨L, hL⟩ : ∃ L, linesQ a c = L := ⟨_, rfl⟩
  have HQ := Lib.hid hq
  have HB := Lib.hid hb
  have HP := Lib.hid hP
  have HL := Lib.hid hL
  have LL5 := Lib.hid (show L.length ≤ 5000 by rw [← hL]; have h1 := linesQ_len a c; have h2 := norm_len a; have h3 := H.out.len; omega)
  have EQ1 : (q == q) = true := by simp
  have EQ2 : (P == P) = true := by simp
  have EQ3 : (b == b) = true := by simp
  clear hq hb hP hL
  go_enter Tryz.func3, Tryz.ntmps3
  go_wp2_with (first | (refine wpList_load_nm rfl _ rfl w.heap.size 0 m rfl N0.out.range HM.out.1 ?_) | go_skip)
  refine (qua_is A n cap a c m q b _ H.out (by omega) HM.out HQ HB).mono ?_
  rintro e w1 ⟨rfl, b1⟩
  have H1 := Lib.hid (H.out.below b1)
  have N1 := Lib.hid (N0.out.below b1)
  have B1 := Lib.hid (step_ B0.out b1)
  clear b1
  go_wp2_with (refine wpList_load_nm rfl _ rfl w.heap.size 0 m rfl N1.out.range HM.out.1 ?_)
  refine (refQua_is A n cap a c m q b _ H1.out (by omega) HM.out hc HQ HB).mono ?_
  rintro e w2 ⟨rfl, b2⟩
  have H2 := Lib.hid (H1.out.below b2)
  have B2 := Lib.hid (step_ B1.out b2)
  clear b2
  go_wp2_with fail
  refine (lines_is A n cap a c _ H2.out (by omega)).mono ?_
  rintro e w3 ⟨⟨v3, rfl, o3⟩, b3⟩
  rw [HL.out] at o3
  obtain ⟨A3, n3, c3, rfl, r3⟩ := o3.rowG LL
  have R3 := Lib.hid r3
  have H3 := Lib.hid (H2.out.below b3)
  have B3 := Lib.hid (step_ B2.out b3)
  clear o3 r3 b3
  go_wp2_with fail
  refine (refLines_is A n cap a c _ H3.out (by omega) hc).mono ?_
  rintro e w4 ⟨⟨v4, rfl, o4⟩, b4⟩
  rw [HL.out] at o4
  obtain ⟨A4, n4, c4, rfl, r4⟩ := o4.rowG LL
  have R4 := Lib.hid r4
  have R34 := Lib.hid (R3.out.below b4)
  have H4 := Lib.hid (H3.out.below b4)
  have B4 := Lib.hid (step_ B3.out b4)
  clear o4 r4 b4
  go_wp2_with fail
  refine (rowsL_is A3 A4 n3 n4 c3 c4 L L true _ R34.out R4.out (by have h1 := R3.out.len; have h2 := LL5.out; omega) (Lib.hid (decide_eq_true rfl))).mono ?_
  rintro e w5 ⟨rfl, b5⟩
  have H5 := Lib.hid (H4.out.below b5)
  have B5 := Lib.hid (step_ B4.out b5)
  clear b5
  go_wp2_with fail
  refine (pieces_is A n cap a c P _ H5.out (by omega) HP).mono ?_
  rintro e w6 ⟨rfl, b6⟩
  have H6 := Lib.hid (H5.out.below b6)
  have B6 := Lib.hid (step_ B5.out b6)
  clear b6
  go_wp2_with fail
  refine (refPieces_is A n cap a c P _ H6.out (by omega) hc HP).mono ?_
  rintro e w7 ⟨rfl, b7⟩
  have B7 := Lib.hid (step_ B6.out b7)
  clear b7
  go_wp2_with fail
  refine (alive_is _).mono ?_
  rintro e w8 ⟨rfl, b8⟩
  have B8 := Lib.hid (step_ B7.out b8)
  clear b8
  go_wp2_with fail
  go_ret
  exact ⟨rfl, B8.out⟩
end Go.Proofs.YtijfbhdbfplghaaGreat
namespace Go.Proofs.YtijfbhdbfplghaaGreat
open Go.ChangeShapes Go.WideShapes Go.ChangeAt Go.RowKit
theorem own : ownKnob Tryz.prog.godebug = none := by kernel_rfl
theorem cellz5 : Tryz.prog.cellsOf 5 = 1 := by kernel_rfl
theorem cellz23 : Tryz.prog.cellsOf 23 = 1 := by kernel_rfl
theorem cellz25 : Tryz.prog.cellsOf 25 = 8 := by kernel_rfl
theorem cellz26 : Tryz.prog.cellsOf 51 = 1 := by kernel_rfl
theorem cellz28 : Tryz.prog.cellsOf 53 = 12 := by kernel_rfl
theorem cellz30 : Tryz.prog.cellsOf 54 = 1 := by kernel_rfl
theorem cellz32 : Tryz.prog.cellsOf 56 = 9 := by kernel_rfl
theorem cellz46 : Tryz.prog.cellsOf 58 = 21 := by kernel_rfl
theorem trod_lts {H : Type} {enc : TypeId × Value → H} {W : World} {t : TypeId} {v : Value} {d : DataW H} {p : List MemPlace} (h : DataW.Trod enc Tryz.prog W 0 (fun _ => true) true t v d p) : ∀ x ∈ p, x.block < W.heap.size := by
  obtain ⟨m, hm⟩ := h; exact DataW.trod_lt m _ _ _ hm
set_option maxRecDepth 100000 in
theorem open_ky {H : Type} {enc : TypeId × Value → H} {W : World} {cs : List Value} {m : Nat} {y : DataW H × List MemPlace} (hf : DataW.trod enc Tryz.prog W 0 (fun _ => true) true m 53 cs = some y) : ∃ k : Ky, cs = k.cells ∧ k.Ok := by
  obtain ⟨xs, n, _, _, hlen, hxl, hx⟩ := DataW.trod_struct Tryz.underlying53 hf
  rw [cellz28] at hlen
  match cs, hlen with
  | [c0, c1, c2, c3, c4, c5, c6, c7, c8, c9, c10, c11], _ =>
    have hxl' : xs.length = 5 := hxl
    have t0 : DataW.trod enc Tryz.prog W 0 (fun _ => true) true n 5 (([c0, c1, c2, c3, c4, c5, c6, c7, c8, c9, c10, c11].drop 0).take (Tryz.prog.cellsOf 5)) = xs[0]? := hx 0 _ rfl
    rw [cellz5, List.getElem?_eq_getElem (by omega)] at t0
    change DataW.trod enc Tryz.prog W 0 (fun _ => true) true n 5 [c0] = _ at t0
    have t1 : DataW.trod enc Tryz.prog W 0 (fun _ => true) true n 23 (([c0, c1, c2, c3, c4, c5, c6, c7, c8, c9, c10, c11].drop 1).take (Tryz.prog.cellsOf 23)) = xs[1]? := hx 1 _ rfl
    rw [cellz23, List.getElem?_eq_getElem (by omega)] at t1
    change DataW.trod enc Tryz.prog W 0 (fun _ => true) true n 23 [c1] = _ at t1
    have t2 : DataW.trod enc Tryz.prog W 0 (fun _ => true) true n 25 (([c0, c1, c2, c3, c4, c5, c6, c7, c8, c9, c10, c11].drop 2).take (Tryz.prog.cellsOf 25)) = xs[2]? := hx 2 _ rfl
    rw [cellz25, List.getElem?_eq_getElem (by omega)] at t2
    change DataW.trod enc Tryz.prog W 0 (fun _ => true) true n 25 [c2, c3, c4, c5, c6, c7, c8, c9] = _ at t2
    have t3 : DataW.trod enc Tryz.prog W 0 (fun _ => true) true n 5 (([c0, c1, c2, c3, c4, c5, c6, c7, c8, c9, c10, c11].drop 10).take (Tryz.prog.cellsOf 5)) = xs[3]? := hx 3 _ rfl
    rw [cellz5, List.getElem?_eq_getElem (by omega)] at t3
    change DataW.trod enc Tryz.prog W 0 (fun _ => true) true n 5 [c10] = _ at t3
    have t4 : DataW.trod enc Tryz.prog W 0 (fun _ => true) true n 51 (([c0, c1, c2, c3, c4, c5, c6, c7, c8, c9, c10, c11].drop 11).take (Tryz.prog.cellsOf 51)) = xs[4]? := hx 4 _ rfl
    rw [cellz26, List.getElem?_eq_getElem (by omega)] at t4
    change DataW.trod enc Tryz.prog W 0 (fun _ => true) true n 51 [c11] = _ at t4
    obtain ⟨s, e0, _, w0⟩ := DataW.trod_int Tryz.underlying5 t0
    injection e0 with e0
    subst e0
    obtain ⟨c, e1, _, w1⟩ := DataW.trod_int Tryz.underlying23 t1
    injection e1 with e1
    subst e1
    obtain ⟨r, e3, _, w3⟩ := DataW.trod_int Tryz.underlying5 t3
    injection e3 with e3
    subst e3
    obtain ⟨q, e4, _, w4⟩ := DataW.trod_int Tryz.underlying51 t4
    injection e4 with e4
    subst e4
    obtain ⟨ys, j, _, _, _, hyl, hy⟩ := DataW.trod_array Tryz.underlying25 t2
    rw [cellz5] at hy
    have get : ∀ i (hi : i < 8), ∃ b : Int, ([c2, c3, c4, c5, c6, c7, c8, c9].drop (i * 1)).take 1 = [.int .u8 b] ∧ 0 ≤ b ∧ b < 256 := fun i hi => by
      have x0 := hy i hi
      rw [List.getElem?_eq_getElem (by omega)] at x0
      obtain ⟨b, e, _, w⟩ := DataW.trod_int Tryz.underlying5 x0
      have := bounds_u8 w
      exact ⟨b, e, by omega, by omega⟩
    obtain ⟨b0, f0, p0⟩ := get 0 (by omega)
    obtain ⟨b1, f1, p1⟩ := get 1 (by omega)
    obtain ⟨b2, f2, p2⟩ := get 2 (by omega)
    obtain ⟨b3, f3, p3⟩ := get 3 (by omega)
    obtain ⟨b4, f4, p4⟩ := get 4 (by omega)
    obtain ⟨b5, f5, p5⟩ := get 5 (by omega)
    obtain ⟨b6, f6, p6⟩ := get 6 (by omega)
    obtain ⟨b7, f7, p7⟩ := get 7 (by omega)
    simp at f0 f1 f2 f3 f4 f5 f6 f7
    subst f0 f1 f2 f3 f4 f5 f6 f7
    have h0 := bounds_u8 w0
    have h1 := bounds_u16 w1
    have h3 := bounds_u8 w3
    have h4 := bounds_u32 w4
    refine ⟨⟨s, c, [b0, b1, b2, b3, b4, b5, b6, b7], r, q⟩, rfl, ⟨rfl, ?_, by show 0 ≤ s; omega, by show s < 256; omega, by show 0 ≤ c; omega, by show c < 65536; omega, by show 0 ≤ r; omega, by show r < 256; omega, by show 0 ≤ q; omega, by show q < 4294967296; omega⟩⟩
    intro z hz
    simp at hz
    rcases hz with rfl | rfl | rfl | rfl | rfl | rfl | rfl | rfl <;> assumption
set_option maxRecDepth 100000 in
theorem open_vc {H : Type} {enc : TypeId × Value → H} {W : World} {cs : List Value} {m : Nat} {y : DataW H × List MemPlace} (hf : DataW.trod enc Tryz.prog W 0 (fun _ => true) true m 56 cs = some y) : ∃ v : Vl, cs = v.cells ∧ v.Ok := by
  obtain ⟨xs, n, _, _, hlen, hxl, hx⟩ := DataW.trod_struct Tryz.underlying56 hf
  rw [cellz32] at hlen
  match cs, hlen with
  | [c0, c2, c3, c4, c5, c6, c7, c8, c9], _ =>
    have hxl' : xs.length = 2 := hxl
    have t0 : DataW.trod enc Tryz.prog W 0 (fun _ => true) true n 54 (([c0, c2, c3, c4, c5, c6, c7, c8, c9].drop 0).take (Tryz.prog.cellsOf 54)) = xs[0]? := hx 0 _ rfl
    rw [cellz30, List.getElem?_eq_getElem (by omega)] at t0
    change DataW.trod enc Tryz.prog W 0 (fun _ => true) true n 54 [c0] = _ at t0
    have t2 : DataW.trod enc Tryz.prog W 0 (fun _ => true) true n 25 (([c0, c2, c3, c4, c5, c6, c7, c8, c9].drop 1).take (Tryz.prog.cellsOf 25)) = xs[1]? := hx 1 _ rfl
    rw [cellz25, List.getElem?_eq_getElem (by omega)] at t2
    change DataW.trod enc Tryz.prog W 0 (fun _ => true) true n 25 [c2, c3, c4, c5, c6, c7, c8, c9] = _ at t2
    obtain ⟨s, e0, _, w0⟩ := DataW.trod_int Tryz.underlying54 t0
    injection e0 with e0
    subst e0
    obtain ⟨ys, j, _, _, _, hyl, hy⟩ := DataW.trod_array Tryz.underlying25 t2
    rw [cellz5] at hy
    have get : ∀ i (hi : i < 8), ∃ b : Int, ([c2, c3, c4, c5, c6, c7, c8, c9].drop (i * 1)).take 1 = [.int .u8 b] ∧ 0 ≤ b ∧ b < 256 := fun i hi => by
      have x0 := hy i hi
      rw [List.getElem?_eq_getElem (by omega)] at x0
      obtain ⟨b, e, _, w⟩ := DataW.trod_int Tryz.underlying5 x0
      have := bounds_u8 w
      exact ⟨b, e, by omega, by omega⟩
    obtain ⟨b0, f0, p0⟩ := get 0 (by omega)
    obtain ⟨b1, f1, p1⟩ := get 1 (by omega)
    obtain ⟨b2, f2, p2⟩ := get 2 (by omega)
    obtain ⟨b3, f3, p3⟩ := get 3 (by omega)
    obtain ⟨b4, f4, p4⟩ := get 4 (by omega)
    obtain ⟨b5, f5, p5⟩ := get 5 (by omega)
    obtain ⟨b6, f6, p6⟩ := get 6 (by omega)
    obtain ⟨b7, f7, p7⟩ := get 7 (by omega)
    simp at f0 f1 f2 f3 f4 f5 f6 f7
    subst f0 f1 f2 f3 f4 f5 f6 f7
    have h0 := bounds_u64 w0
    refine ⟨⟨s, [b0, b1, b2, b3, b4, b5, b6, b7]⟩, rfl, ⟨rfl, ?_, by show 0 ≤ s; omega, by show s < 18446744073709551616; omega⟩⟩
    intro z hz
    simp at hz
    rcases hz with rfl | rfl | rfl | rfl | rfl | rfl | rfl | rfl <;> assumption
set_option maxRecDepth 100000 in
theorem open_ac {H : Type} {enc : TypeId × Value → H} {W : World} {cs : List Value} {m : Nat} {y : DataW H × List MemPlace} (hf : DataW.trod enc Tryz.prog W 0 (fun _ => true) true m 58 cs = some y) : ∃ a : Am, cs = a.cells ∧ a.Ok := by
  obtain ⟨xs, n, _, _, hlen, hxl, hx⟩ := DataW.trod_struct Tryz.underlying58 hf
  rw [cellz46] at hlen
  have hxl' : xs.length = 2 := hxl
  have t0 : DataW.trod enc Tryz.prog W 0 (fun _ => true) true n 53 ((cs.drop 0).take (Tryz.prog.cellsOf 53)) = xs[0]? := hx 0 _ rfl
  rw [cellz28, List.getElem?_eq_getElem (by omega)] at t0
  have t1 : DataW.trod enc Tryz.prog W 0 (fun _ => true) true n 56 ((cs.drop 12).take (Tryz.prog.cellsOf 56)) = xs[1]? := hx 1 _ rfl
  rw [cellz32, List.getElem?_eq_getElem (by omega)] at t1
  obtain ⟨k, hk, ko⟩ := open_ky t0
  obtain ⟨v, hv, vo⟩ := open_vc t1
  refine ⟨⟨k, v⟩, ?_, ⟨ko, vo⟩⟩
  unfold Am.cells
  rw [← hk, ← hv, List.drop_zero, List.take_of_length_le (l := cs.drop 12) (by rw [List.length_drop]; omega), List.take_append_drop]
theorem choose_list {α : Type} {n : Nat} {Q : Nat → α → Prop} (h : ∀ i, i < n → ∃ a, Q i a) : ∃ l : List α, l.length = n ∧ ∀ i (hi : i < l.length), Q i l[i] := by
  induction n with
  | zero => exact ⟨[], rfl, fun i hi => absurd hi (by simp)⟩
  | succ n ih =>
    obtain ⟨l, hl, hq⟩ := ih fun i hi => h i (by omega)
    obtain ⟨a, ha⟩ := h n (by omega)
    refine ⟨l ++ [a], by simp [hl], fun i hi => ?_⟩
    by_cases h1 : i < l.length
    · rw [List.getElem_append_left h1]; exact hq i h1
    · have h2 : i = l.length := by simp at hi; omega
      subst h2
      rw [List.getElem_append_right (Nat.le_refl _)]
      simp only [Nat.sub_self, List.getElem_cons_zero]
      rw [hl]
      exact ha
set_option maxRecDepth 100000 in
theorem open_row {H : Type} {enc : TypeId × Value → H} {W : World} {u : Value} {m : Nat} {y : DataW H × List MemPlace} (hf : DataW.trod enc Tryz.prog W 0 (fun _ => true) true m 22 [u] = some y) : ∃ A n cap l, u = .slice A n cap ∧ RowV W A n cap l := by
  rcases Go.Deep.open_slice Tryz.underlying22 hf with ⟨hcs, _⟩ | ⟨a, len, cap, m, n, D, Pl, hcs, _, hl, hc, hm, _, hx⟩
  · injection hcs with hcs
    subst hcs
    exact ⟨none, 0, 0, [], rfl, okR_nil, rfl, Nat.le_refl _, Nat.zero_le _, fun h => absurd h (Nat.lt_irrefl _)⟩
  · injection hcs with hcs
    subst hcs
    simp only [if_true] at hm
    rw [cellz46] at hx
    obtain ⟨ps, hpl, hps⟩ := choose_list (n := len) (Q := fun i (q : Am) => W.cells? 0 (a.add (i * 21)) 21 = some q.cells ∧ q.Ok) (fun i hi => by
      obtain ⟨cs', h1, h2⟩ := hx i (by omega)
      obtain ⟨q, rfl, hq⟩ := open_ac h2
      exact ⟨q, h1, hq⟩)
    refine ⟨some a, len, cap, ps, rfl, fun q hq => ?_, hpl, hl, hc, fun h0 => ?_⟩
    · obtain ⟨i, hi, rfl⟩ := List.getElem_of_mem hq
      exact (hps i hi).2
    · obtain ⟨_, _, hc⟩ := World.cells?_some (hps 0 (by omega)).1
      have h00 := hc 0 (by omega)
      have hz : ps[0].cells[0]? = some (.int .u8 ps[0].k.s) := by
        rw [Am.cells, List.getElem?_append_left (by rw [kcells_len (hps 0 (by omega)).2.k.ml]; omega)]; exact kc0 _
      rw [hz] at h00
      obtain ⟨b, off, spot⟩ := a
      have h2 : W.cell? ⟨b, off, spot⟩ = some (.int .u8 ps[0].k.s) := by simpa [Addr.add] using h00
      have hspot : spot = none := by simpa using World.cell?_spot h2
      subst hspot
      refine ⟨b, off, rfl, World.block_lt_of_cell? W ⟨b, off, none⟩ h2, fun i hi j v hv => ?_⟩
      obtain ⟨_, hl21, hc⟩ := World.cells?_some (hps i hi).1
      have hj : j < 21 := by rw [← hl21]; exact (List.getElem?_eq_some_iff.1 hv).1
      have := hc j hj
      rw [add_at, add_at, hv] at this
      exact this
set_option maxRecDepth 100000 in
theorem open_atoms {H : Type} {enc : TypeId × Value → H} {W : World} {base : Nat} {v : Value} {d : DataW H} {p : List MemPlace} (hv : Value.okWide Tryz.prog W .any base 22 v) (h : DataW.Trod enc Tryz.prog W 0 (fun _ => true) true 22 v d p) :
    ∃ A n cap l, v = .slice A n cap ∧ RowV W A n cap l := by
  obtain ⟨a0, len0, cap0, rfl⟩ := okWide_slice Tryz.underlying22 hv
  obtain ⟨fuel, hf⟩ := h
  exact open_row hf
end Go.Proofs.YtijfbhdbfplghaaGreat
namespace Go.Proofs.YtijfbhdbfplghaaGreat
open Go.ChangeShapes Go.WideShapes Go.ChangeAt Go.RowKit
set_option maxRecDepth 100000 in
theorem open_name {H : Type} {enc : TypeId × Value → H} {W : World} {base : Nat} {v : Value} {d : DataW H} {p : List MemPlace} (hv : Value.okWide Tryz.prog W .any base 25 v) (h : DataW.Trod enc Tryz.prog W 0 (fun _ => true) true 25 v d p) :
    ∃ l : List Int, v = .agg (nm l) ∧ l.length = 8 ∧ M.Bytes l := by
  simp only [Value.okWide, Tryz.underlying25] at hv
  obtain ⟨cs, rfl, hsz, _⟩ := hv
  rw [cellz25] at hsz
  obtain ⟨fuel, hf⟩ := h
  obtain ⟨xs, m, _, _, _, hlen, hx⟩ := DataW.trod_array Tryz.underlying25 hf
  have hcs : (Value.agg cs).cells.toList = cs.toList := by simp [Value.cells]
  rw [hcs, cellz5] at hx
  have each : ∀ i (hi : i < 8), ∃ b : Int, cs[i]'(by omega) = .int .u8 b ∧ 0 ≤ b ∧ b < 256 := fun i hi => by
    have x0 := hx i hi
    rw [List.getElem?_eq_getElem (by omega)] at x0
    obtain ⟨b0, c0, _, w0⟩ := DataW.trod_int Tryz.underlying5 x0
    rw [Nat.mul_one, List.drop_eq_getElem_cons (by simp; omega)] at c0
    simp at c0
    have := bounds_u8 w0
    exact ⟨b0, c0, by omega, by omega⟩
  refine ⟨cs.toList.map intOf, ?_, by simp [hsz], ?_⟩
  · congr 1
    refine nm_of (by simp) fun i hi => ?_
    have hi8 : i < 8 := by simpa [hsz] using hi
    obtain ⟨b, hb, _⟩ := each i hi8
    rw [Array.getElem?_eq_getElem (by omega), hb]
    simp [hb, intOf]
  · intro x hx
    obtain ⟨c, hc, rfl⟩ := List.mem_map.1 hx
    obtain ⟨i, hi, rfl⟩ := List.mem_iff_getElem.1 hc
    have hi8 : i < 8 := by simpa [hsz] using hi
    obtain ⟨b, hb, h0⟩ := each i hi8
    have : cs.toList[i] = cs[i]'(by omega) := by simp
    rw [this, hb]
    exact h0
end Go.Proofs.YtijfbhdbfplghaaGreat
namespace Go.Proofs.YtijfbhdbfplghaaGreat
open Go.RowKit Go.Shelf
attribute [local go_sem] Oper.semAt_some
theorem OwnG.rowS {w : World} {B : Nat} {D : Option Addr} {n cp : Nat} {L : List (List Int × Int)} (h : OwnG EL w B (.slice D n cp) L) : RowG EL w D n cp L := by
  obtain ⟨A5, n5, cp5, e5, rV⟩ := h.rowG LL
  injection e5 with e51 e52 e53
  subst e51 e52 e53
  exact rV
theorem ofR_is (A : Option Addr) (n cap : Nat) (a : List Am) (c : Int) (t : List Int) (L : List (List Int × Int)) (w : World) (h : RowV w A n cap a) (hl : n ≤ 600) (hc : 0 ≤ c ∧ c < 65536) (ht : Hid (noteT a c = t)) (hL : Hid (linesQ a c = L)) :
    Calls Tryz.prog 22 #[.slice A n cap, .int .u16 c] w fun e w' => (∃ D m cp, e = .returned (.agg (vcs D m cp t).toArray) ∧ RowG EL w' D m cp L ∧ m ≤ 600) ∧ Below w.heap.size w w' := by
  have h0 := h.ok
  have hn := h.len
  refine (of_is_ A n cap a c t w h hl hc ht).mono ?_
  rintro e w1 ⟨⟨D, m, cp, rfl, o⟩, b⟩
  have r := o.rowS
  have h1 := r.len
  have h2 := linesQ_len a c
  have h3 := norm_len a
  exact ⟨⟨D, m, cp, rfl, by rw [← hL.out]; exact r, by omega⟩, b⟩
theorem sameR_is (D D2 : Option Addr) (n n2 cp cp2 : Nat) (t : List Int) (L : List (List Int × Int)) (w : World) (h : RowG EL w D n cp L) (h2 : RowG EL w D2 n2 cp2 L) (hn : n ≤ 600) (ht : t.length = 8) :
    Calls Tryz.prog 21 #[.agg (vcs D n cp t).toArray, .agg (vcs D2 n2 cp2 t).toArray] w fun e w' => e = .returned (.bool true) ∧ Below w.heap.size w w' :=
  same_is_ D D2 n n2 cp cp2 t t L L true w h h2 (by omega) ht ht (Lib.hid (by simp))
end Go.Proofs.YtijfbhdbfplghaaGreat
namespace Go.Proofs.YtijfbhdbfplghaaGreat
open Go.ChangeShapes Go.WideShapes Go.ChangeAt Go.RowKit
set_option maxRecDepth 100000 in
theorem open_atoms2 {H : Type} {enc : TypeId × Value → H} {W : World} {base : Nat} {v : Value} {d : DataW H} {p : List MemPlace} (hv : Value.okWide Tryz.prog W .any base 22 v) (h : DataW.Trod enc Tryz.prog W 0 (fun _ => true) true 22 v d p) :
    ∃ A n cap l, v = .slice A n cap ∧ RowV W A n cap l ∧ (A = none → cap = 0) := by
  obtain ⟨a0, len0, cap0, rfl⟩ := okWide_slice Tryz.underlying22 hv
  have h0 := h
  obtain ⟨fuel, hf⟩ := h
  obtain ⟨A, n, cap, l, e, hr⟩ := open_atoms hv h0
  refine ⟨A, n, cap, l, e, hr, fun hA => ?_⟩
  simp only [Value.slice.injEq] at e
  obtain ⟨rfl, rfl, rfl⟩ := e
  rcases Go.Deep.open_slice Tryz.underlying22 hf with ⟨hcs, _⟩ | ⟨a, len, c, m, k, D, Pl, hcs, _⟩
  · simp [Value.cells] at hcs
    exact hcs.2.2
  · simp [Value.cells] at hcs
    rw [hA] at hcs
    cases hcs.1
theorem run_app_row (w : World) (B : Nat) (v : Value) (l m : List Am) (A : Option Addr) (n cap : Nat) (ty : TypeId) (hown : OwnR w B v l) (hm : RowV w A n cap m) (hnil : A = none → cap = 0) (hn : l.length + n ≤ 5000) (hB : B ≤ w.heap.size) :
    ∃ v' w', (Builtin.append_ #[22, 22] ty #[v, .slice A n cap]).run Tryz.prog w = .ok v' w' ∧ OwnR w' B v' (l ++ m) ∧ Below B w w' := by
  obtain ⟨i0, hi, hz0, hz1, hz2⟩ := info_parts info46z
  have hl := hm.len
  have hlt : ∀ k, v.ownBlock = some k → B ≤ k := fun k hk => (hown.row.lt k hk).1
  cases A with
  | none =>
    obtain rfl := hnil rfl
    have h0 : n = 0 := by have := hm.le; omega
    subst h0
    have e : m = [] := List.length_eq_zero_iff.1 hl
    subst e
    have he := run_append_owned_none (P := Tryz.prog) (w := w) B 22 ty 58 i0 21 Tryz.underlying22 hi v _ _ hown.row
    exact ⟨v, w, he, by simpa using hown, Below.refl _ _⟩
  | some ad =>
    obtain ⟨v', w', hr, h1, h2, _⟩ := run_append_own_at (P := Tryz.prog) w B 22 ty 58 i0 (.agg azero.cells.toArray) 21 40 Tryz.underlying22 hi hz0 hz1 hz2 (by rfl) (by decide) v _ _ hown.row ad n cap (acs m) (by rw [acs_len hm.ok, hl])
      (fun t u ht => by
        have htl : t < m.length * 21 := by rw [← acs_len hm.ok]; exact (List.getElem?_eq_some_iff.1 ht).1
        obtain ⟨G, off, ha, _, hr⟩ := hm.at_ (by omega)
        obtain rfl := Option.some.inj ha
        have hi21 : t / 21 < m.length := by omega
        have hc := acells_len (hm.ok _ (List.getElem_mem hi21))
        have hj : (m[t / 21].cells)[t % 21]? = some ((m[t / 21].cells)[t % 21]'(by rw [hc]; omega)) := List.getElem?_eq_getElem _
        have h3 := acs_get hm.ok (t / 21) hi21 (t % 21) _ hj
        rw [show t / 21 * 21 + t % 21 = t by omega, ht] at h3
        rw [numAdd, show off + t = off + t / 21 * 21 + t % 21 by omega, hr (t / 21) hi21 (t % 21) _ hj, h3])
      (acs_ones m) (by unfold maxLen; omega) (by omega) hB
    refine ⟨v', w', hr, ⟨hown.ok.app hm.ok, by rw [acs_app, List.length_append, hl]; exact h1⟩, (Below.refl B w).grown h2 hB hlt⟩
section
variable {ops : Array Oper} {rest : List Oper} {op : Oper} {a : Act} {w : World} {Q : Exit → Act → World → Prop}
theorem wpList_app_row (hgd : op.guard = none) (s x : Operand) (ho : op.op = .call { callee := .builtin .append, args := #[s, x], argTypes := #[22, 22] })
    (B : Nat) (v : Value) (l m : List Am) (A : Option Addr) (n cap : Nat) (hs : a.eval s = v) (hx : a.eval x = .slice A n cap) (hown : OwnR w B v l) (hm : RowV w A n cap m) (hnil : A = none → cap = 0) (hn : l.length + n ≤ 5000) (hB : B ≤ w.heap.size)
    (h : ∀ E k c w', Hid (k = (l ++ m).length) → Hid (OwnR w' B (.slice E k c) (l ++ m)) → Hid (Below B w w') → wpList Tryz.prog ops Q rest (a.put op.dst (.slice E k c)) w') : wpList Tryz.prog ops Q (op :: rest) a w := by
  refine wpList_plain hgd fun K hK => ?_
  obtain ⟨v', w', he, h1, h2⟩ := run_app_row w B v l m A n cap op.type hown hm hnil hn hB
  obtain ⟨E, c, e⟩ := h1.shape
  subst e
  unfold Oper.wp execOp
  simp only [ho, resolve, invoke, builtin, Sem.run_bind, Sem.run_pure, Result.andThen_ok, List.map_toArray, List.map_cons, List.map_nil, hs, hx, he]
  exact hK _ _ (h E _ c w' (Lib.hid rfl) (Lib.hid h1) (Lib.hid h2))
theorem run_row0 (w : World) : (Instr.buildSlice 22 0 #[]).run Tryz.prog w = .ok (.slice (some ⟨w.heap.size, 0, none⟩) 0 0) (w.alloc (.cells #[] 58)) := by
  have hsz := sizeOf49
  simp [Instr.buildSlice, run_underlying Tryz.underlying22, hsz, Instr.fill, newRow]
  congr 2
  kernel_rfl
theorem wpList_row0 (hgd : op.guard = none) (ho : op.op = .buildSlice 22 0 #[])
    (h : ∀ g w', Hid (OwnR w' w.heap.size (.slice (some ⟨g, 0, none⟩) 0 0) []) → Hid (Below w.heap.size w w') → wpList Tryz.prog ops Q rest (a.put op.dst (.slice (some ⟨g, 0, none⟩) 0 0)) w') : wpList Tryz.prog ops Q (op :: rest) a w := by
  refine wpList_plain hgd fun K hK => ?_
  have H := h w.heap.size (w.alloc (.cells #[] 58)) (Lib.hid ⟨okR_nil, World.ownsRow_lit w #[] 0 (Nat.le_refl _) (by decide) rfl⟩) (Lib.hid (new_below w _))
  unfold Oper.wp execOp
  simp [ho, run_row0]
  exact hK _ _ H
end
end Go.Proofs.YtijfbhdbfplghaaGreat
