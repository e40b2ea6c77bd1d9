/- The contracts of Compare of package cmp at numbers of 32 bits, of Compare of slices at two vectors, and of the comparison that tops sorts by. No program in it: lexicographic order of vectors; the greatest ones of a list; peaks. -/
import Derived.Test.YtihkncnhkljgpaaVecs
import Derived.Test.YtihkncnhkljgpaaCompare
import Derived.Test.YtihkncnhkljgpaaMathV
namespace Go.Proofs.Ytihkncnhkljgpaa
open Go.RowKit

theorem isNaNV_is (x : Int) (w : World) : Calls Try.prog 76 #[.int .u32 x] w fun e w' => e = .returned (.bool false) ∧ w = w' := by
  go_enter Try.func76, Try.ntmps76
  go_wp2
  go_ret
  exact ⟨rfl, rfl⟩
theorem compareU_is (x y : Int) (w : World) : Calls Try.prog 56 #[.int .u32 x, .int .u32 y] w fun e w' => e = .returned (.int .i64 (cmp2 x y)) ∧ w = w' := by
  by_cases h1 : x < y
  · have e1 : cmp2 x y = -1 := if_pos h1
    rw [e1]
    clear e1
    go_enter Try.func56, Try.ntmps56
    go_wp2_with fail
    refine (isNaNV_is x _).mono ?_
    rintro e w1 ⟨rfl, rfl⟩
    go_wp2_with fail
    refine (isNaNV_is y _).mono ?_
    rintro e w1 ⟨rfl, rfl⟩
    go_wp2_with fail
    go_ret
    exact ⟨rfl, rfl⟩
  · by_cases h2 : y < x
    · have e1 : cmp2 x y = 1 := by unfold cmp2; rw [if_neg h1, if_pos h2]
      rw [e1]
      clear e1
      go_enter Try.func56, Try.ntmps56
      go_wp2_with fail
      refine (isNaNV_is x _).mono ?_
      rintro e w1 ⟨rfl, rfl⟩
      go_wp2_with fail
      refine (isNaNV_is y _).mono ?_
      rintro e w1 ⟨rfl, rfl⟩
      go_wp2_with fail
      go_ret
      exact ⟨rfl, rfl⟩
    · have e1 : cmp2 x y = 0 := by unfold cmp2; rw [if_neg h1, if_neg h2]
      rw [e1]
      clear e1
      go_enter Try.func56, Try.ntmps56
      go_wp2_with fail
      refine (isNaNV_is x _).mono ?_
      rintro e w1 ⟨rfl, rfl⟩
      go_wp2_with fail
      refine (isNaNV_is y _).mono ?_
      rintro e w1 ⟨rfl, rfl⟩
      go_wp2_with fail
      go_ret
      exact ⟨rfl, rfl⟩
/-- What slices.Compare says of two lists of one length. -/
def lx : List Int → List Int → Int
  | x :: a, y :: b => if cmp2 x y ≠ 0 then cmp2 x y else lx a b
  | _, _ => 0
theorem cmp2_self (x : Int) : cmp2 x x = 0 := by unfold cmp2; simp
theorem cmp2_zeroV {x y : Int} (h : cmp2 x y = 0) : x = y := by
  unfold cmp2 at h
  split at h
  · omega
  · split at h <;> omega
theorem lx_self : ∀ a, lx a a = 0
  | [] => rfl
  | x :: a => by rw [lx, cmp2_self, if_neg (by simp), lx_self a]
theorem lx_at : ∀ {a b : List Int} {i : Nat} {x y : Int}, a.take i = b.take i → a[i]? = some x → b[i]? = some y → cmp2 x y ≠ 0 → lx a b = cmp2 x y
  | [], _, i, x, y, _, h, _, _ => by simp at h
  | _ :: _, [], i, x, y, _, _, h, _ => by simp at h
  | p :: a, q :: b, 0, x, y, _, h1, h2, h3 => by
    simp at h1 h2
    subst h1 h2
    rw [lx, if_pos h3]
  | p :: a, q :: b, i + 1, x, y, h, h1, h2, h3 => by
    simp only [List.take_succ_cons, List.cons.injEq] at h
    obtain ⟨rfl, h⟩ := h
    rw [lx, cmp2_self, if_neg (by simp)]
    exact lx_at h (by simpa using h1) (by simpa using h2) h3
theorem take_next {a b : List Int} {i : Nat} {x : Int} (h : a.take i = b.take i) (h1 : a[i]? = some x) (h2 : b[i]? = some x) : a.take (i + 1) = b.take (i + 1) := by
  rw [List.take_add_one, List.take_add_one, h, h1, h2]
set_option maxRecDepth 100000 in
theorem compareL_is (g h : Nat) (a b : List Int) (w : World) (h1 : Blk w g 24 (vc a)) (h2 : Blk w h 24 (vc b)) (ha : a.length = 16) (hb : b.length = 16) :
    Calls Try.prog 42 #[.slice (some ⟨g, 0, none⟩) 16 16, .slice (some ⟨h, 0, none⟩) 16 16] w fun e w' => e = .returned (.int .i64 (lx a b)) ∧ w = w' := by
  have H1 := Lib.hid h1
  have H2 := Lib.hid h2
  have HA := Lib.hid ha
  have HB := Lib.hid hb
  clear h1 h2 ha hb
  go_enter Try.func42, Try.ntmps42
  go_wp2_with fail
  go_loopw [11] (fun ii wr => ∃ i : Nat, i ≤ 16 ∧ ii = .int .i64 i ∧ a.take i = b.take i ∧ wr = w) (fun ii _ => 16 - (intOf ii).toNat)
  case atStart => exact ⟨0, Nat.zero_le _, rfl, rfl, rfl⟩
  case round =>
    obtain ⟨i, hi, rfl, ht, rfl⟩ := hrel
    have TT := Lib.hid ht
    clear ht
    by_cases hlt : i < 16
    · obtain ⟨x, hx⟩ : ∃ x, a[i]? = some x := ⟨_, List.getElem?_eq_getElem (by have := HA.out; omega)⟩
      obtain ⟨y, hy⟩ : ∃ y, b[i]? = some y := ⟨_, List.getElem?_eq_getElem (by have := HB.out; omega)⟩
      have c1 := H1.out.cell (vc_at hx)
      have c2 := H2.out.cell (vc_at hy)
      have HX := Lib.hid hx
      have HY := Lib.hid hy
      clear hx hy
      go_wp2_with fail
      refine (compareU_is x y _).mono ?_
      rintro e w1 ⟨rfl, rfl⟩
      by_cases hc : cmp2 x y = 0
      · have EN := Lib.hid (take_next TT.out HX.out (by rw [HY.out, cmp2_zeroV hc]))
        rw [hc]
        go_wp2_with fail
        go_roundw
        case rel => exact ⟨i + 1, by omega, by go_num, EN.out, trivial⟩
        case measure => simp [intOf]; omega
      · have LX := Lib.hid (lx_at TT.out HX.out HY.out hc)
        obtain ⟨z, hz⟩ : ∃ z, cmp2 x y = z := ⟨_, rfl⟩
        rw [hz] at LX hc ⊢
        have hcz : (z == 0) = false := by simp [hc]
        clear hz hc
        go_wp2_with fail
        go_ret
        exact ⟨by rw [LX.out]; rfl, rfl⟩
    · obtain rfl : i = 16 := by omega
      have LX := Lib.hid (show lx a b = 0 by
        have := TT.out
        rw [List.take_of_length_le (by have := HA.out; omega), List.take_of_length_le (by have := HB.out; omega)] at this
        rw [this, lx_self])
      go_wp2_with fail
      go_ret
      exact ⟨by rw [LX.out]; rfl, rfl⟩
set_option maxRecDepth 100000 in
theorem topsCmp_is (a b : List Int) (w : World) (ha : a.length = 16) (hb : b.length = 16) : Calls Try.prog 41 #[.agg (vc a).toArray, .agg (vc b).toArray] w fun e w' => e = .returned (.int .i64 (lx b a)) ∧ Gr w w' := by
  have Q1 := Lib.hid ((blk_alloc w 24 (vc a)).alloc (.cells (vc b).toArray 24))
  have Q2 := Lib.hid (blk2 w (.cells (vc a).toArray 24) 24 (vc b))
  have B0 := Lib.hid (step_ (new_below w (.cells (vc a).toArray 24)) (new_below _ (.cells (vc b).toArray 24)))
  have HA := Lib.hid ha
  have HB := Lib.hid hb
  clear ha hb
  go_enter Try.func41, Try.ntmps41
  go_wp2_with fail
  go_quiet (refine Calls.quiet_of_same ((compareL_is (w.heap.size + 1) w.heap.size b a _ (Q2.out.drewN _) (Q1.out.drewN _) HB.out HA.out).mono fun _ _ hh => ⟨hh.1, hh.2.symm⟩))
  go_wp2
  go_ret
  exact ⟨rfl, below_drewN B0.out _, Nat.le_add_right _ _⟩
end Go.Proofs.Ytihkncnhkljgpaa
namespace Go.Proofs.Ytihkncnhkljgpaa

theorem cmp2_negV {x y : Int} : cmp2 x y < 0 ↔ x < y := by
  unfold cmp2
  split
  · simp [*]
  · split <;> simp <;> omega
theorem cmp2_nz {x y : Int} : cmp2 x y ≠ 0 ↔ x ≠ y := by
  unfold cmp2
  split
  · simp; omega
  · split
    · simp; omega
    · simp; omega
theorem lx_lt {x y : Int} {a b : List Int} : lx (x :: a) (y :: b) < 0 ↔ x < y ∨ (x = y ∧ lx a b < 0) := by
  rw [lx]
  by_cases h : x = y
  · subst h; rw [cmp2_self, if_neg (by simp)]; simp
  · rw [if_pos (cmp2_nz.2 h), cmp2_negV]; simp [h]
theorem lx_irrefl (a : List Int) : ¬ lx a a < 0 := by rw [lx_self]; omega
theorem lx_trans : ∀ {a b c : List Int}, lx a b < 0 → lx b c < 0 → lx a c < 0
  | [], _, _, h, _ => by simp [lx] at h
  | _ :: _, [], _, h, _ => by simp [lx] at h
  | _ :: _, _ :: _, [], _, h => by simp [lx] at h
  | x :: a, y :: b, z :: c, h1, h2 => by
    rw [lx_lt] at *
    rcases h1 with h1 | ⟨rfl, h1⟩
    · rcases h2 with h2 | ⟨rfl, h2⟩
      · exact .inl (by omega)
      · exact .inl h1
    · rcases h2 with h2 | ⟨rfl, h2⟩
      · exact .inl h2
      · exact .inr ⟨rfl, lx_trans h1 h2⟩
theorem lx_ntrans : ∀ {a b c : List Int}, a.length = b.length → b.length = c.length → ¬ lx a b < 0 → ¬ lx b c < 0 → ¬ lx a c < 0
  | [], _, _, _, _, _, _ => by simp [lx]
  | _ :: _, [], _, h, _, _, _ => by simp at h
  | _ :: _, _ :: _, [], _, h, _, _ => by simp at h
  | x :: a, y :: b, z :: c, l1, l2, h1, h2 => by
    rw [lx_lt] at *
    rintro (h | ⟨rfl, h⟩)
    · have : ¬ x < y := fun e => h1 (.inl e)
      have : ¬ y < z := fun e => h2 (.inl e)
      omega
    · have e1 : ¬ x < y := fun e => h1 (.inl e)
      have e2 : ¬ y < x := fun e => h2 (.inl e)
      obtain rfl : x = y := by omega
      exact lx_ntrans (by simpa using l1) (by simpa using l2) (fun e => h1 (.inr ⟨rfl, e⟩)) (fun e => h2 (.inr ⟨rfl, e⟩)) h
/-- What is below and unlike is less. -/
theorem lx_of_le : ∀ {a b : List Int}, a.length = b.length → (∀ i, i < a.length → a.getD i 0 ≤ b.getD i 0) → a ≠ b → lx a b < 0
  | [], [], _, _, h => absurd rfl h
  | [], _ :: _, h, _, _ => by simp at h
  | _ :: _, [], h, _, _ => by simp at h
  | x :: a, y :: b, hl, hle, hne => by
    rw [lx_lt]
    have h0 := hle 0 (by simp)
    simp at h0
    by_cases h : x < y
    · exact .inl h
    · obtain rfl : x = y := by omega
      refine .inr ⟨rfl, lx_of_le (by simpa using hl) (fun i hi => ?_) (fun e => hne (by rw [e]))⟩
      have := hle (i + 1) (by simpa using hi)
      simpa using this
theorem vle_lx {a b : List Int} (ha : a.length = 16) (hb : b.length = 16) (h : vle a b = true) (hne : a ≠ b) : lx a b < 0 := by
  refine lx_of_le (by omega) (fun i hi => ?_) hne
  exact (vle_iff ha hb).1 h i (by omega)
theorem vle_trans {a b c : List Int} (ha : a.length = 16) (hb : b.length = 16) (hc : c.length = 16) (h1 : vle a b = true) (h2 : vle b c = true) : vle a c = true :=
  (vle_iff ha hc).2 fun i hi => Int.le_trans ((vle_iff ha hb).1 h1 i hi) ((vle_iff hb hc).1 h2 i hi)
/-- Is v below no other one of s? -/
def mxl (s : List (List Int)) (v : List Int) : Bool := s.all fun u => !vle v u || u == v
theorem mxl_false {s : List (List Int)} {v : List Int} (h : mxl s v = false) : ∃ u ∈ s, vle v u = true ∧ u ≠ v := by
  unfold mxl at h
  rw [List.all_eq_false] at h
  obtain ⟨u, hu, h⟩ := h
  refine ⟨u, hu, ?_⟩
  simp only [Bool.or_eq_true, Bool.not_eq_true', beq_iff_eq, not_or, Bool.not_eq_false] at h
  exact h
theorem mxl_true {s : List (List Int)} {v : List Int} (h : mxl s v = true) {u : List Int} (hu : u ∈ s) (hv : vle v u = true) : u = v := by
  unfold mxl at h
  rw [List.all_eq_true] at h
  have := h u hu
  simpa [hv] using this
section
variable {s : List (List Int)} (hs : s.Pairwise (fun a b => ¬ lx a b < 0)) (hl : ∀ a ∈ s, a.length = 16)
include hs hl
theorem above_before {i k : Nat} (hi : i < s.length) (hk : k < s.length) (h : vle s[i] s[k] = true) (hne : s[k] ≠ s[i]) : k < i := by
  have h1 := vle_lx (hl _ (List.getElem_mem hi)) (hl _ (List.getElem_mem hk)) h (fun e => hne e.symm)
  by_cases hki : k < i
  · exact hki
  · by_cases e : k = i
    · subst e; exact absurd rfl hne
    · exact absurd h1 ((List.pairwise_iff_getElem.1 hs) i k hi hk (by omega))
/-- What lies below another one lies below a greatest one, which stands ahead of it. -/
theorem top_of : ∀ (k : Nat) (hk : k < s.length) (v : List Int), v.length = 16 → vle v s[k] = true → ∃ j, ∃ hj : j < s.length, j ≤ k ∧ vle v s[j] = true ∧ mxl s s[j] = true := by
  intro k
  induction k using Nat.strongRecOn with
  | ind k ih =>
    intro hk v hv hle
    cases hm : mxl s s[k] with
    | true => exact ⟨k, hk, Nat.le_refl _, hle, hm⟩
    | false =>
      obtain ⟨u, hu, h1, h2⟩ := mxl_false hm
      obtain ⟨j, hj, rfl⟩ := List.getElem_of_mem hu
      have hlt := above_before hs hl hk hj h1 h2
      obtain ⟨t, ht, h3, h4, h5⟩ := ih j hlt hj v hv (vle_trans hv (hl _ (List.getElem_mem hk)) (hl _ (List.getElem_mem hj)) hle h1)
      exact ⟨t, ht, by omega, h4, h5⟩
theorem any_top (hd : s.Nodup) {i : Nat} (hi : i < s.length) : ((s.take i).filter (mxl s)).any (fun t => vle s[i] t) = !mxl s s[i] := by
  cases hm : mxl s s[i] with
  | true =>
    rw [Bool.not_true, List.any_eq_false]
    intro t ht hv
    obtain ⟨h1, _⟩ := List.mem_filter.1 ht
    obtain ⟨k, hk, rfl⟩ := List.getElem_of_mem h1
    rw [List.length_take] at hk
    rw [List.getElem_take] at hv
    have e := mxl_true hm (List.getElem_mem _) hv
    have := (List.getElem_inj hd).1 e
    omega
  | false =>
    rw [Bool.not_false, List.any_eq_true]
    obtain ⟨u, hu, h1, h2⟩ := mxl_false hm
    obtain ⟨k, hk, rfl⟩ := List.getElem_of_mem hu
    have hlt := above_before hs hl hi hk h1 h2
    obtain ⟨j, hj, h3, h4, h5⟩ := top_of hs hl k hk _ (hl _ (List.getElem_mem hi)) h1
    exact ⟨s[j], List.mem_filter.2 ⟨List.mem_take_iff_getElem.2 ⟨j, by omega, rfl⟩, h5⟩, h4⟩
end
/-- Whether the vector i of the list is a peak. -/
def pkl (ls : List (List Int)) (i : Nat) : Bool := mxl ls (ls.getD i vz)
theorem mxl_same {s t : List (List Int)} (h : ∀ k, k ∈ s ↔ k ∈ t) (v : List Int) : mxl s v = mxl t v := by
  rw [Bool.eq_iff_iff]
  unfold mxl
  rw [List.all_eq_true, List.all_eq_true]
  exact ⟨fun g x hx => g x ((h x).2 hx), fun g x hx => g x ((h x).1 hx)⟩
theorem cmp_one (a b : List Int) : (!vle a b || b == a) = !decide (vcmp a b = 1) := by
  unfold vcmp
  by_cases h : a = b
  · subst h; simp
  · have h1 : (a == b) = false := beq_eq_false_iff_ne.2 h
    have h2 : (b == a) = false := beq_eq_false_iff_ne.2 (fun e => h e.symm)
    rw [h1, h2]
    cases vle a b <;> cases vle b a <;> simp
def peaksV (ls : List (List Int)) : List Nat := (List.range ls.length).filter (pkl ls)
end Go.Proofs.Ytihkncnhkljgpaa
