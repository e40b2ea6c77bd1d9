/- The contracts of Clone of slices at atoms, and of All, Join and Norm of package lat. -/
import Derived.Test.YtgggjhbijnndhaaSorted
namespace Go.Proofs.Ytgggjhbijnndhaa
open Go.RowKit

theorem acs_cells {w : World} {G off : Nat} {l : List Am} (hl : OkR l) (h : ∀ i (hi : i < l.length), w.rangeAt G (off + i * 21) l[i].cells) : ∀ j u, (acs l)[j]? = some u → w.cell? ⟨G, off + j, none⟩ = some u := by
  intro j u hj
  have hlt : j < l.length * 21 := by rw [← acs_len hl]; exact (List.getElem?_eq_some_iff.1 hj).1
  have hi : j / 21 < l.length := by omega
  have hlen := acells_len (hl _ (List.getElem_mem hi))
  have hv : l[j / 21].cells[j % 21]? = some (l[j / 21].cells[j % 21]'(by omega)) := List.getElem?_eq_getElem (by omega)
  have h1 := acs_get hl _ hi (j % 21) _ hv
  rw [show j / 21 * 21 + j % 21 = j by omega, hj] at h1
  have h2 := h _ hi (j % 21) _ hv
  rw [← h1, Nat.add_assoc, show j / 21 * 21 + j % 21 = j by omega] at h2
  exact h2
theorem run_none46 (w : World) : (Instr.buildSlice 22 0 #[]).run Try.prog w = .ok (.slice (some ⟨w.heap.size, 0, none⟩) 0 0) (w.alloc (.cells #[] 63)) := by
  simp only [Instr.buildSlice, Sem.run_bind, run_underlying Try.underlying22, Result.andThen_ok, sizeOf46]
  rw [if_neg (by decide), if_pos (by decide)]
  have e : ∀ g : Nat → Value, Array.map g (Array.range (0 * 21)) = #[] := fun g => by simp
  simp only [e, Instr.fill, Sem.run_bind, Sem.run_pure, Result.andThen_ok]
  rfl
set_option maxRecDepth 100000 in
set_option maxHeartbeats 2000000 in
theorem clone_isO (A : Option Addr) (n cap : Nat) (l : List Am) (w : World) (h : RowV w A n cap l) (hn : n ≤ 1000) : Calls Try.prog 58 #[.slice A n cap] w (GivesO w l) := by
  have hb := run_none46
  have hq : ∀ (W : World) (a : Option Addr) (n c : Nat), (binOp .eql 22 (.slice a n c) (.slice none 0 0)).run Try.prog W = .ok (.bool a.isNone) W := fun W a n c => Lib.run_eql_slice_nil W _ _ _ _ _ _ _ Try.underlying22
  cases A with
  | none =>
    have h0 : n = 0 := by
      by_cases e : n = 0
      · exact e
      · obtain ⟨G, off, e2, _⟩ := h.at_ (by omega)
        cases e2
    have hl : l = [] := List.eq_nil_of_length_eq_zero (by rw [h.len, h0])
    have HL := Lib.hid hl
    clear h h0 hl
    go_enter Try.func58, Try.ntmps58
    go_wp2_with fail
    go_ret
    exact ⟨⟨none, 0, 0, rfl, by rw [HL.out]; exact ⟨okR_nil, rfl, Nat.le_refl _, Nat.zero_le _, fun h => absurd h (Nat.lt_irrefl _)⟩, fun G off e => by cases e⟩, Below.refl _ _⟩
  | some ad =>
    obtain ⟨i0, hi, hz0, hz1, hz2⟩ := info_parts info46z
    have H := Lib.hid h
    have O0 := Lib.hid (World.ownsRow_made (base := w.heap.size) (e := 63) (size := 21) w #[] 0 (Nat.le_refl _) (Nat.zero_le _) (by rfl))
    have B0 := Lib.hid (new_below w (.cells #[] 63))
    have HC := Lib.hid (show ∀ j u, (acs l)[j]? = some u → (w.alloc (.cells #[] 63)).cell? (ad.add j) = some u from fun j u hj => by
      have hlt : j < l.length * 21 := by rw [← acs_len h.ok]; exact (List.getElem?_eq_some_iff.1 hj).1
      obtain ⟨G, off, e, hG, hr⟩ := h.at_ (by have := h.len; omega)
      cases e
      have h1 := acs_cells h.ok hr j u hj
      have h2 := ((new_below w (.cells #[] 63)).cell (p := ⟨G, off + j, none⟩) hG).trans h1
      unfold Addr.add
      split
      · rename_i h0; rw [h0] at h2; exact h2
      · exact h2)
    clear h
    go_enter Try.func58, Try.ntmps58
    go_wp2_with (first
      | go_skip
      | (refine wpList_append_own _ rfl _ _ 22 rfl w.heap.size 63 i0 (.agg azero.cells.toArray) 21 40 Try.underlying22 hi hz0 hz1 hz2 (by rfl) (by decide) _ 0 [] rfl O0.out ad n cap (acs l) rfl (by rw [acs_len H.out.ok, H.out.len]) HC.out (acs_ones l) (by unfold maxLen; omega) (by omega) (by simp) ?_; intro v1 w1 o1 g1 _))
    have O1 := Lib.hid (show OwnR w1 w.heap.size v1 l from ⟨H.out.ok, by have := o1; rw [Nat.zero_add, List.nil_append, ← H.out.len] at this; exact this⟩)
    have B1 := Lib.hid (B0.out.trans ((Below.refl w.heap.size _).grown g1 (by simp) (fun k hk => (O0.out.lt k hk).1)))
    clear o1 g1
    go_wp2_with fail
    go_ret
    exact GivesO.own O1.out B1.out
theorem clone_is (A : Option Addr) (n cap : Nat) (l : List Am) (w : World) (h : RowV w A n cap l) (hn : n ≤ 1000) : Calls Try.prog 58 #[.slice A n cap] w (GivesR w l) := (clone_isO A n cap l w h hn).mono fun _ _ h => h.r
set_option maxRecDepth 100000 in
set_option maxHeartbeats 2000000 in
theorem all_isO (A : Option Addr) (n cap : Nat) (ls : List (List Am)) (w : World) (h : RowsV w A n cap ls) (hf : FewR ls) : Calls Try.prog 59 #[.slice A n cap] w (GivesO w (norm ls.flatten)) := by
  have H := Lib.hid h
  have FF := Lib.hid hf
  clear h hf
  go_enter Try.func59, Try.ntmps59
  go_wp2_with fail
  refine (collect_is A n cap ls _ H.out FF.out).mono ?_
  rintro e w1 ⟨⟨b, rfl, _, m1⟩, b1⟩
  have M1 := Lib.hid m1
  have B1 := Lib.hid b1
  clear m1 b1
  go_wp2_with fail
  refine (sorted_isO b ls.flatten _ M1.out (okR_flat H.out.ok)).mono ?_
  rintro e w2 ⟨⟨D, m, c, rfl, r2, f2⟩, b2⟩
  have F2 := Lib.hid f2
  have R2 := Lib.hid r2
  have B2 := Lib.hid b2
  clear r2 b2 f2
  go_wp2_with fail
  go_ret
  exact ⟨⟨D, m, c, rfl, R2.out, fun G off e => Nat.le_trans B1.out.size (F2.out G off e)⟩, step_ B1.out B2.out⟩
theorem all_is (A : Option Addr) (n cap : Nat) (ls : List (List Am)) (w : World) (h : RowsV w A n cap ls) (hf : FewR ls) : Calls Try.prog 59 #[.slice A n cap] w (GivesR w (norm ls.flatten)) := (all_isO A n cap ls w h hf).mono fun _ _ h => h.r
/-- Rows that the call lays itself. -/
theorem rows_one {w : World} {A : Option Addr} {n c : Nat} {a : List Am} (h : RowV w A n c a) : RowsV (w.alloc (.cells #[.slice A n c] 22)) (some ⟨w.heap.size, 0, none⟩) 1 1 [a] := by
  refine ⟨rfl, Nat.le_refl _, by decide, fun _ => ⟨w.heap.size, 0, rfl, by simp, fun i hi => ?_⟩⟩
  obtain rfl : i = 0 := by omega
  have hb := blk_alloc w 22 [.slice A n c]
  exact ⟨A, n, c, hb.cell rfl, h.below (new_below w _)⟩
theorem rows_two {w : World} {A B : Option Addr} {n c m d : Nat} {a b : List Am} (h : RowV w A n c a) (h2 : RowV w B m d b) : RowsV (w.alloc (.cells #[.slice A n c, .slice B m d] 22)) (some ⟨w.heap.size, 0, none⟩) 2 2 [a, b] := by
  refine ⟨rfl, Nat.le_refl _, by decide, fun _ => ⟨w.heap.size, 0, rfl, by simp, fun i hi => ?_⟩⟩
  have hb := blk_alloc w 22 [.slice A n c, .slice B m d]
  match i, hi with
  | 0, _ => exact ⟨A, n, c, hb.cell rfl, h.below (new_below w _)⟩
  | 1, _ => exact ⟨B, m, d, hb.cell rfl, h2.below (new_below w _)⟩
set_option maxRecDepth 100000 in
set_option maxHeartbeats 2000000 in
theorem norm_isO (A : Option Addr) (n cap : Nat) (l : List Am) (w : World) (h : RowV w A n cap l) (hn : n ≤ 600) : Calls Try.prog 48 #[.slice A n cap] w (GivesO w (norm l)) := by
  have H := Lib.hid h
  clear h
  cases hr : rightR l with
  | true =>
    have HR := Lib.hid hr
    clear hr
    go_enter Try.func48, Try.ntmps48
    go_wp2_with fail
    refine (rightR_is A n cap l true _ H.out (by omega) HR).mono ?_
    rintro e w1 ⟨rfl, b1⟩
    have B1 := Lib.hid b1
    clear b1
    go_wp2_with fail
    refine (clone_isO A n cap l _ (H.out.below B1.out) (by omega)).mono ?_
    rintro e w2 ⟨⟨D, m, c, rfl, r2, f2⟩, b2⟩
    have F2 := Lib.hid f2
    have R2 := Lib.hid r2
    have B2 := Lib.hid b2
    clear r2 b2 f2
    go_wp2_with fail
    go_ret
    exact ⟨⟨D, m, c, rfl, by rw [norm_right H.out.ok HR.out]; exact R2.out, fun G off e => Nat.le_trans B1.out.size (F2.out G off e)⟩, step_ B1.out B2.out⟩
  | false =>
    have HR := Lib.hid hr
    clear hr
    go_enter Try.func48, Try.ntmps48
    go_wp2_with fail
    refine (rightR_is A n cap l false _ H.out (by omega) HR).mono ?_
    rintro e w1 ⟨rfl, b1⟩
    have B1 := Lib.hid b1
    have RR := Lib.hid (rows_one (H.out.below b1))
    have FF := Lib.hid (show FewR [l] from ⟨by simp, by simp; have := H.out.len; omega⟩)
    have HJ := Lib.hid (show norm [l].flatten = norm l by simp)
    have B0 := Lib.hid (new_below w1 (.cells #[.slice A n cap] 22))
    clear b1
    go_wp2_with fail
    refine (all_isO _ _ _ [l] _ RR.out FF.out).mono ?_
    rintro e w2 ⟨⟨D, m, c, rfl, r2, f2⟩, b2⟩
    have F2 := Lib.hid f2
    have R2 := Lib.hid r2
    have B2 := Lib.hid b2
    clear r2 b2 f2
    go_wp2_with fail
    go_ret
    exact ⟨⟨D, m, c, rfl, by rw [← HJ.out]; exact R2.out, fun G off e => Nat.le_trans (Nat.le_trans B1.out.size B0.out.size) (F2.out G off e)⟩, step_ B1.out (step_ B0.out B2.out)⟩
theorem norm_is (A : Option Addr) (n cap : Nat) (l : List Am) (w : World) (h : RowV w A n cap l) (hn : n ≤ 600) : Calls Try.prog 48 #[.slice A n cap] w (GivesR w (norm l)) := (norm_isO A n cap l w h hn).mono fun _ _ h => h.r
end Go.Proofs.Ytgggjhbijnndhaa
