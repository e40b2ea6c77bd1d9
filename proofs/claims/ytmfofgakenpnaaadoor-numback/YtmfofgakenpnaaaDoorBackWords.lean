/- The words of joined numbers are their digits; so they are split as they were. -/
import Derived.Test.YtmfofgakenpnaaaDoorBackMath
namespace Go.Proofs.YtmfofgakenpnaaaDoor
open Go.RowKit

theorem itoa_ne (n : Int) : Lib.itoa n ≠ [] := by
  unfold Lib.itoa; split
  · simp
  · exact dec_ne _
theorem itoa_noblank (n : Int) : ∀ c ∈ Lib.itoa n, M.blank (c.toNat : Int) = false := by
  intro c hc
  have key : ∀ u, c ∈ Lib.decDigits u → M.blank (c.toNat : Int) = false := by
    intro u hu
    have h := (M.isDig_iff c).1 (List.all_eq_true.1 (dec_all u) c hu)
    rw [M.blank, Bool.or_eq_false_iff, beq_eq_false_iff_ne, beq_eq_false_iff_ne]; omega
  unfold Lib.itoa at hc
  split at hc
  · rcases List.mem_cons.1 hc with h | h
    · rw [h]; rfl
    · exact key _ h
  · exact key _ hc
theorem sepAt_list (s : ByteArray) (i : Nat) (c : UInt8) (h : s.data.toList[i]? = some c) : M.sepAt M.blank s i = M.blank (c.toNat : Int) := by
  obtain ⟨hi, he⟩ := List.getElem?_eq_some_iff.1 h
  have hi2 : i < s.size := by rw [size_len] at hi; exact hi
  rw [M.sepAt_lt M.blank s i hi2]
  rw [show s[i] = s.data.toList[i] from rfl, he]
theorem extract_is (s : ByteArray) (a b : Nat) (x : List UInt8) (h : (s.data.toList.take b).drop a = x) : s.extract a b = ⟨x.toArray⟩ := by
  apply ByteArray.ext
  apply Array.toList_inj.1
  rw [ByteArray.data_extract, Array.toList_extract, List.extract_eq_take_drop, ← h]
  simp [List.drop_take]
theorem join_prefix (l : List Int) (k : Nat) : ∀ j, ∃ r, joinTo l (k + j) = joinTo l k ++ r := by
  intro j
  induction j with
  | zero => exact ⟨[], by simp⟩
  | succ j ih =>
    obtain ⟨r, hr⟩ := ih
    rw [← Nat.add_assoc, joinTo]
    split
    · exact ⟨r ++ [32] ++ Lib.itoa (l.getD (k + j) 0), by rw [hr]; simp⟩
    · exact ⟨r ++ Lib.itoa (l.getD (k + j) 0), by rw [hr]; simp⟩
/-- A word that begins at a place where one may begin. -/
theorem fl_take (s : ByteArray) (p : List UInt8) (x : List UInt8) (r : List UInt8) (hs : s.data.toList = p ++ x ++ r) (hx : x ≠ []) (hb : ∀ c ∈ x, M.blank (c.toNat : Int) = false) (hr : M.ready s p.length) :
    M.flushed s (p.length + x.length) = M.flushed s p.length ++ [⟨x.toArray⟩] := by
  have hx0 : 0 < x.length := List.length_pos_iff.2 hx
  have hsz : p.length + x.length ≤ s.size := by rw [← size_len, hs]; simp
  have hget : ∀ i, p.length ≤ i → i < p.length + x.length → ∃ c, c ∈ x ∧ s.data.toList[i]? = some c := by
    intro i h1 h2
    refine ⟨x[i - p.length]'(by omega), List.getElem_mem _, ?_⟩
    rw [hs, List.append_assoc, List.getElem?_append_right h1, List.getElem?_append_left (by omega), List.getElem?_eq_getElem (by omega)]
  have hsep : ∀ i, p.length ≤ i → i < p.length + x.length → M.sepAt M.blank s i = false := by
    intro i h1 h2
    obtain ⟨c, hc, he⟩ := hget i h1 h2
    rw [sepAt_list s i c he]; exact hb c hc
  have h0 := hsep p.length (Nat.le_refl _) (by omega)
  rw [M.sepAt_lt M.blank s p.length (by omega)] at h0
  rw [M.fl_word s p.length (p.length + x.length) (by omega) h0 hr (by omega) hsep, extract_is s _ _ x]
  rw [hs, show p ++ x ++ r = (p ++ x) ++ r from rfl, List.take_left' (by simp), List.drop_left]
theorem join_flush (l : List Int) (s : ByteArray) (k : Nat) (r : List UInt8) (hk : k ≤ l.length) (hs : s.data.toList = joinTo l k ++ r) :
    M.flushed s (joinTo l k).length = (l.take k).map (fun x => ⟨(Lib.itoa x).toArray⟩) := by
  induction k generalizing r with
  | zero => rfl
  | succ k ih =>
    have hx : l.getD k 0 = l[k]'(by omega) := by
      rw [List.getD_eq_getElem?_getD, List.getElem?_eq_getElem (by omega)]; rfl
    rw [List.take_succ_eq_append_getElem (by omega), List.map_append, List.map_singleton]
    by_cases h0 : 0 < k
    · rw [joinTo, if_pos h0, hx] at hs ⊢
      have ih' := ih ([32] ++ Lib.itoa l[k] ++ r) (by omega) (by rw [hs]; simp)
      have h32 : s.data.toList[(joinTo l k).length]? = some 32 := by
        rw [hs]; simp
      have hlt : (joinTo l k).length < s.size := by
        rw [← size_len]; exact (List.getElem?_eq_some_iff.1 h32).1
      have hb : M.blank (s[(joinTo l k).length].toNat : Int) = true := by
        have := sepAt_list s _ _ h32
        rw [M.sepAt_lt M.blank s _ hlt] at this
        rw [this]; rfl
      obtain ⟨f1, f2⟩ := M.fl_blank s _ hlt hb
      have f3 := fl_take s (joinTo l k ++ [32]) (Lib.itoa l[k]) r hs (itoa_ne _) (itoa_noblank _) (by rw [List.length_append]; exact f2)
      rw [List.length_append, f3, List.length_append, List.length_singleton, f1, ih']
    · obtain rfl : k = 0 := by omega
      rw [joinTo, if_neg h0, hx] at hs ⊢
      have f3 := fl_take s (joinTo l 0) (Lib.itoa l[0]) r hs (itoa_ne _) (itoa_noblank _) (M.fl_zero s).2
      rw [List.length_append, f3]
      rfl
theorem words_join (l : List Int) : M.wordsOf ⟨(joinTo l l.length).toArray⟩ = l.map (fun x => ⟨(Lib.itoa x).toArray⟩) := by
  have h := join_flush l ⟨(joinTo l l.length).toArray⟩ l.length [] (Nat.le_refl _) (by simp)
  rw [← M.fl_end]
  rw [List.take_length] at h
  rw [← h]
  rfl
theorem splitGo_join (lo hi : Int) (l : List Int) (hl : ∀ x ∈ l, InI64 x ∧ lo ≤ x ∧ x ≤ hi) : ∀ k acc, splitGo (fun p => parsed p.data.toList lo hi) (l.map (fun x => ⟨(Lib.itoa x).toArray⟩)) k acc = (acc ++ l, 0, 0) := by
  induction l with
  | nil => intro k acc; simp [splitGo]
  | cons x r ih =>
    intro k acc
    obtain ⟨h1, h2, h3⟩ := hl x List.mem_cons_self
    rw [List.map_cons, splitGo]
    have e : parsed (ByteArray.mk (Lib.itoa x).toArray).data.toList lo hi = (x, 0) := parse_print x lo hi h1 h2 h3
    rw [e]
    simp only [if_true]
    rw [ih (fun y hy => hl y (List.mem_cons_of_mem _ hy))]
    simp
/-- Numbers that were joined are split as they were. -/
theorem split_join (lo hi : Int) (l : List Int) (hl : ∀ x ∈ l, InI64 x ∧ lo ≤ x ∧ x ≤ hi) : splitOf ⟨(joinTo l l.length).toArray⟩ lo hi = (l, 0, 0) := by
  rw [splitOf, words_join, splitGo_join lo hi l hl]; rfl
end Go.Proofs.YtmfofgakenpnaaaDoor
