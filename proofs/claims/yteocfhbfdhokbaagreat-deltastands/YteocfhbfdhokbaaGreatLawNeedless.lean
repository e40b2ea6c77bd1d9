/- The contract of the law DeltaNeedless. -/
import Derived.Test.YteocfhbfdhokbaaGreatRefNeed
import Derived.Test.YteocfhbfdhokbaaGreatCommon
namespace Go.Proofs.YteocfhbfdhokbaaGreat
open Go.RowKit

section
open Go.ChangeShapes Go.WideShapes Go.ChangeAt Go.RowKit
set_option maxRecDepth 100000 in
theorem open_rows0 {H : Type} {enc : TypeId × Value → H} {W : World} {base : Nat} {v : Value} {d : DataW H} {p : List MemPlace} (hv : Value.okWide Tryz.prog W .any base 22 v) (h : DataW.Trod enc Tryz.prog W 0 (fun _ => true) true 22 v d p) :
    ∃ A n cap ls, v = .slice A n cap ∧ RowsV W A n cap ls ∧ (A = none → cap = 0) := by
  obtain ⟨a0, len0, cap0, rfl⟩ := okWide_slice Tryz.underlying22 hv
  obtain ⟨fuel, hf⟩ := h
  rcases Go.Deep.open_slice1 Tryz.underlying22 cellz22 hf with ⟨hcs, _⟩ | ⟨a, len, cap, m, n, V, D, Pl, hcs, _, hl, hc, hm, _, hx⟩
  · simp [Value.cells] at hcs
    obtain ⟨rfl, rfl, rfl⟩ := hcs
    exact ⟨none, 0, 0, [], rfl, ⟨rfl, Nat.le_refl _, Nat.zero_le _, fun h => absurd h (Nat.lt_irrefl _)⟩, fun _ => rfl⟩
  · simp [Value.cells] at hcs
    obtain ⟨rfl, rfl, rfl⟩ := hcs
    simp only [if_true] at hm
    obtain ⟨ls, hll, hls⟩ := choose_list (n := len0) (Q := fun i (l : List Am) => ∃ A n c, V i = .slice A n c ∧ RowV W A n c l) (fun i hi => by
      obtain ⟨h1, h2⟩ := hx i (by omega)
      obtain ⟨A, n, c, l, e, r⟩ := open_row h2
      exact ⟨l, A, n, c, e, r⟩)
    refine ⟨some a, len0, cap0, ls, rfl, ⟨hll, hl, hc, fun h0 => ?_⟩, fun h => by cases h⟩
    have h00 := (hx 0 (by omega)).1
    obtain ⟨b, off, spot⟩ := a
    have h2 : W.cell? ⟨b, off, spot⟩ = some (V 0) := by simpa [Addr.add] using h00
    have hspot : spot = none := by simpa using World.cell?_spot h2
    subst hspot
    refine ⟨b, off, rfl, World.block_lt_of_cell? W ⟨b, off, none⟩ h2, fun i hi => ?_⟩
    obtain ⟨A, n, c, e, r⟩ := hls i (by omega)
    have h3 := (hx i (by omega)).1
    rw [add_at, e] at h3
    refine ⟨A, n, c, h3, ?_⟩
    rw [show ls.getD i [] = ls[i]'(by omega) by simp [List.getD, List.getElem?_eq_getElem (show i < ls.length by omega)]]
    exact r
end
theorem fewR_of {ls : List (List Am)} {n : Nat} (hl : ls.length = n) (hn : n ≤ 8) (h : ∀ i, i < n → (ls.getD i []).length ≤ 30) : FewR ls := by
  have h2 : ∀ x ∈ ls, x.length ≤ 30 := fun x hx => by
    obtain ⟨i, hi, rfl⟩ := List.getElem_of_mem hx
    have := h i (by omega)
    rw [List.getD_eq_getElem?_getD, List.getElem?_eq_getElem hi, Option.getD_some] at this
    exact this
  have h3 : ∀ ms : List (List Am), (∀ x ∈ ms, x.length ≤ 30) → ms.flatten.length ≤ ms.length * 30 := fun ms => by
    induction ms with
    | nil => intro _; exact Nat.le_refl _
    | cons x ms ih =>
      intro h
      have h4 := h x (List.mem_cons_self ..)
      have h5 := ih (fun y hy => h y (List.mem_cons_of_mem _ hy))
      simp only [List.flatten_cons, List.length_append, List.length_cons]
      omega
  exact ⟨by omega, by have := h3 ls h2; omega⟩
set_option maxRecDepth 100000 in
set_option maxHeartbeats 8000000 in
theorem deltaNeedless_is (A : Option Addr) (n cap : Nat) (ls : List (List Am)) (w : World) (h : RowsV w A n cap ls) (h0 : A = none → cap = 0) : Calls Tryz.prog 3 #[.slice A n cap] w fun e w' => e = .returned (.bool true) ∧ Below w.heap.size w w' := by
  have H := Lib.hid h
  have Z0 := Lib.hid h0
  clear h h0
  go_enter Tryz.func3, Tryz.ntmps3
  go_wp2_with fail
  refine (light_is _ _ _ _ _ H.out).mono ?_
  rintro e w1 ⟨⟨r, rfl, hr⟩, b1⟩
  have B1 := Lib.hid b1
  clear b1
  cases r with
  | false =>
    clear hr
    go_wp2_with fail
    refine (life_is _).mono ?_
    rintro e wl ⟨rfl, bl⟩
    have BL := Lib.hid (step_ B1.out bl)
    clear bl
    go_wp2_with fail
    go_ret
    exact ⟨rfl, BL.out⟩
  | true =>
    have FF := Lib.hid (fewR_of H.out.len (hr rfl).1 (hr rfl).2)
    clear hr
    obtain ⟨q, hq⟩ : ∃ q, irred ls = q := ⟨_, rfl⟩
    have HQ := Lib.hid hq
    have HN := Lib.hid (show decide (needless ls = []) = q by rw [← irred_is]; exact hq)
    have hbq : (q == q) = true := by simp
    clear hq
    go_wp2_with fail
    refine (irredundant_is _ _ _ ls q _ (H.out.below B1.out) FF.out HN).mono ?_
    rintro e w2 ⟨rfl, b2⟩
    have B2 := Lib.hid (step_ B1.out b2)
    clear b2
    go_wp2_with fail
    refine (refIrred_is _ _ _ ls _ (H.out.below B2.out) FF.out).mono ?_
    rw [HQ.out]
    rintro e w3 ⟨rfl, b3⟩
    have B3 := Lib.hid (step_ B2.out b3)
    clear b3
    go_wp2_with fail
    refine (needless_is _ _ _ ls _ (H.out.below B3.out) FF.out).mono ?_
    rintro e w4 ⟨⟨A4, n4, c4, rfl, r4, _⟩, b4⟩
    have B4 := Lib.hid (step_ B3.out b4)
    have R4 := Lib.hid r4
    clear b4 r4
    go_wp2_with fail
    refine (refNeedless_is _ _ _ ls _ (H.out.below B4.out) FF.out Z0.out).mono ?_
    rintro e w5 ⟨⟨A5, n5, c5, rfl, r5, _⟩, b5⟩
    have B5 := Lib.hid (step_ B4.out b5)
    have R5 := Lib.hid r5
    have R6 := Lib.hid (R4.out.below b5)
    obtain rfl : n4 = n5 := by have := r5.len; have := R4.out.len; omega
    have L5 := Lib.hid (show n4 ≤ 5000 by have h9 := (nst_ni (show OkM ls from H.out.ok) ls.length (Nat.le_refl _)).few; have h8 : (needless ls).length ≤ ls.length := h9; have := r5.len; have := FF.out.1; omega)
    clear b5 r5
    go_wp2_with fail
    refine (sameI_is _ _ _ _ _ _ _ R6.out R5.out L5.out).mono ?_
    rintro e w6 ⟨rfl, b6⟩
    have B6 := Lib.hid (step_ B5.out b6)
    clear b6
    go_wp2_with fail
    refine (life_is _).mono ?_
    rintro e wl ⟨rfl, bl⟩
    have BL := Lib.hid (step_ B6.out bl)
    clear bl
    go_wp2_with fail
    go_ret
    exact ⟨rfl, BL.out⟩
end Go.Proofs.YteocfhbfdhokbaaGreat
