/- No program in it: lexicographic order of vectors; the greatest ones of a list; peaks. -/
import Derived.Test.YtihkncnhkljgpaaMathO
import Derived.Test.YtihkncnhkljgpaaCompareV
namespace Go.Proofs.Ytihkncnhkljgpaa

theorem cmp2_negV {x y : Int} : cmp2 x y < 0 ↔ x < y := by
  unfold cmp2
  split
  · simp [*]
  · split <;> simp <;> omega
theorem cmp2_nz {x y : Int} : cmp2 x y ≠ 0 ↔ x ≠ y := by
  unfold cmp2
  split
  · simp; omega
  · split
    · simp; omega
    · simp; omega
theorem lx_lt {x y : Int} {a b : List Int} : lx (x :: a) (y :: b) < 0 ↔ x < y ∨ (x = y ∧ lx a b < 0) := by
  rw [lx]
  by_cases h : x = y
  · subst h; rw [cmp2_self, if_neg (by simp)]; simp
  · rw [if_pos (cmp2_nz.2 h), cmp2_negV]; simp [h]
theorem lx_irrefl (a : List Int) : ¬ lx a a < 0 := by rw [lx_self]; omega
theorem lx_trans : ∀ {a b c : List Int}, lx a b < 0 → lx b c < 0 → lx a c < 0
  | [], _, _, h, _ => by simp [lx] at h
  | _ :: _, [], _, h, _ => by simp [lx] at h
  | _ :: _, _ :: _, [], _, h => by simp [lx] at h
  | x :: a, y :: b, z :: c, h1, h2 => by
    rw [lx_lt] at *
    rcases h1 with h1 | ⟨rfl, h1⟩
    · rcases h2 with h2 | ⟨rfl, h2⟩
      · exact .inl (by omega)
      · exact .inl h1
    · rcases h2 with h2 | ⟨rfl, h2⟩
      · exact .inl h2
      · exact .inr ⟨rfl, lx_trans h1 h2⟩
theorem lx_ntrans : ∀ {a b c : List Int}, a.length = b.length → b.length = c.length → ¬ lx a b < 0 → ¬ lx b c < 0 → ¬ lx a c < 0
  | [], _, _, _, _, _, _ => by simp [lx]
  | _ :: _, [], _, h, _, _, _ => by simp at h
  | _ :: _, _ :: _, [], _, h, _, _ => by simp at h
  | x :: a, y :: b, z :: c, l1, l2, h1, h2 => by
    rw [lx_lt] at *
    rintro (h | ⟨rfl, h⟩)
    · have : ¬ x < y := fun e => h1 (.inl e)
      have : ¬ y < z := fun e => h2 (.inl e)
      omega
    · have e1 : ¬ x < y := fun e => h1 (.inl e)
      have e2 : ¬ y < x := fun e => h2 (.inl e)
      obtain rfl : x = y := by omega
      exact lx_ntrans (by simpa using l1) (by simpa using l2) (fun e => h1 (.inr ⟨rfl, e⟩)) (fun e => h2 (.inr ⟨rfl, e⟩)) h
/-- What is below and unlike is less. -/
theorem lx_of_le : ∀ {a b : List Int}, a.length = b.length → (∀ i, i < a.length → a.getD i 0 ≤ b.getD i 0) → a ≠ b → lx a b < 0
  | [], [], _, _, h => absurd rfl h
  | [], _ :: _, h, _, _ => by simp at h
  | _ :: _, [], h, _, _ => by simp at h
  | x :: a, y :: b, hl, hle, hne => by
    rw [lx_lt]
    have h0 := hle 0 (by simp)
    simp at h0
    by_cases h : x < y
    · exact .inl h
    · obtain rfl : x = y := by omega
      refine .inr ⟨rfl, lx_of_le (by simpa using hl) (fun i hi => ?_) (fun e => hne (by rw [e]))⟩
      have := hle (i + 1) (by simpa using hi)
      simpa using this
theorem vle_lx {a b : List Int} (ha : a.length = 16) (hb : b.length = 16) (h : vle a b = true) (hne : a ≠ b) : lx a b < 0 := by
  refine lx_of_le (by omega) (fun i hi => ?_) hne
  exact (vle_iff ha hb).1 h i (by omega)
theorem vle_trans {a b c : List Int} (ha : a.length = 16) (hb : b.length = 16) (hc : c.length = 16) (h1 : vle a b = true) (h2 : vle b c = true) : vle a c = true :=
  (vle_iff ha hc).2 fun i hi => Int.le_trans ((vle_iff ha hb).1 h1 i hi) ((vle_iff hb hc).1 h2 i hi)
/-- Is v below no other one of s? -/
def mxl (s : List (List Int)) (v : List Int) : Bool := s.all fun u => !vle v u || u == v
theorem mxl_false {s : List (List Int)} {v : List Int} (h : mxl s v = false) : ∃ u ∈ s, vle v u = true ∧ u ≠ v := by
  unfold mxl at h
  rw [List.all_eq_false] at h
  obtain ⟨u, hu, h⟩ := h
  refine ⟨u, hu, ?_⟩
  simp only [Bool.or_eq_true, Bool.not_eq_true', beq_iff_eq, not_or, Bool.not_eq_false] at h
  exact h
theorem mxl_true {s : List (List Int)} {v : List Int} (h : mxl s v = true) {u : List Int} (hu : u ∈ s) (hv : vle v u = true) : u = v := by
  unfold mxl at h
  rw [List.all_eq_true] at h
  have := h u hu
  simpa [hv] using this
section
variable {s : List (List Int)} (hs : s.Pairwise (fun a b => ¬ lx a b < 0)) (hl : ∀ a ∈ s, a.length = 16)
include hs hl
theorem above_before {i k : Nat} (hi : i < s.length) (hk : k < s.length) (h : vle s[i] s[k] = true) (hne : s[k] ≠ s[i]) : k < i := by
  have h1 := vle_lx (hl _ (List.getElem_mem hi)) (hl _ (List.getElem_mem hk)) h (fun e => hne e.symm)
  by_cases hki : k < i
  · exact hki
  · by_cases e : k = i
    · subst e; exact absurd rfl hne
    · exact absurd h1 ((List.pairwise_iff_getElem.1 hs) i k hi hk (by omega))
/-- What lies below another one lies below a greatest one, which stands ahead of it. -/
theorem top_of : ∀ (k : Nat) (hk : k < s.length) (v : List Int), v.length = 16 → vle v s[k] = true → ∃ j, ∃ hj : j < s.length, j ≤ k ∧ vle v s[j] = true ∧ mxl s s[j] = true := by
  intro k
  induction k using Nat.strongRecOn with
  | ind k ih =>
    intro hk v hv hle
    cases hm : mxl s s[k] with
    | true => exact ⟨k, hk, Nat.le_refl _, hle, hm⟩
    | false =>
      obtain ⟨u, hu, h1, h2⟩ := mxl_false hm
      obtain ⟨j, hj, rfl⟩ := List.getElem_of_mem hu
      have hlt := above_before hs hl hk hj h1 h2
      obtain ⟨t, ht, h3, h4, h5⟩ := ih j hlt hj v hv (vle_trans hv (hl _ (List.getElem_mem hk)) (hl _ (List.getElem_mem hj)) hle h1)
      exact ⟨t, ht, by omega, h4, h5⟩
theorem any_top (hd : s.Nodup) {i : Nat} (hi : i < s.length) : ((s.take i).filter (mxl s)).any (fun t => vle s[i] t) = !mxl s s[i] := by
  cases hm : mxl s s[i] with
  | true =>
    rw [Bool.not_true, List.any_eq_false]
    intro t ht hv
    obtain ⟨h1, _⟩ := List.mem_filter.1 ht
    obtain ⟨k, hk, rfl⟩ := List.getElem_of_mem h1
    rw [List.length_take] at hk
    rw [List.getElem_take] at hv
    have e := mxl_true hm (List.getElem_mem _) hv
    have := (List.getElem_inj hd).1 e
    omega
  | false =>
    rw [Bool.not_false, List.any_eq_true]
    obtain ⟨u, hu, h1, h2⟩ := mxl_false hm
    obtain ⟨k, hk, rfl⟩ := List.getElem_of_mem hu
    have hlt := above_before hs hl hi hk h1 h2
    obtain ⟨j, hj, h3, h4, h5⟩ := top_of hs hl k hk _ (hl _ (List.getElem_mem hi)) h1
    exact ⟨s[j], List.mem_filter.2 ⟨List.mem_take_iff_getElem.2 ⟨j, by omega, rfl⟩, h5⟩, h4⟩
end
/-- Whether the vector i of the list is a peak. -/
def pkl (ls : List (List Int)) (i : Nat) : Bool := mxl ls (ls.getD i vz)
theorem mxl_same {s t : List (List Int)} (h : ∀ k, k ∈ s ↔ k ∈ t) (v : List Int) : mxl s v = mxl t v := by
  rw [Bool.eq_iff_iff]
  unfold mxl
  rw [List.all_eq_true, List.all_eq_true]
  exact ⟨fun g x hx => g x ((h x).2 hx), fun g x hx => g x ((h x).1 hx)⟩
theorem cmp_one (a b : List Int) : (!vle a b || b == a) = !decide (vcmp a b = 1) := by
  unfold vcmp
  by_cases h : a = b
  · subst h; simp
  · have h1 : (a == b) = false := beq_eq_false_iff_ne.2 h
    have h2 : (b == a) = false := beq_eq_false_iff_ne.2 (fun e => h e.symm)
    rw [h1, h2]
    cases vle a b <;> cases vle b a <;> simp
def peaksV (ls : List (List Int)) : List Nat := (List.range ls.length).filter (pkl ls)
end Go.Proofs.Ytihkncnhkljgpaa
