/- Plain mathematics of layer 1: what is printed is parsed as it was, what is parsed is printed as it was, joined numbers are split as they were. -/
import Derived.Test.YtmfofgakenpnaaaDoorSplit
namespace Go.Proofs.YtmfofgakenpnaaaDoor
open Go.RowKit

theorem digitByte (d : Nat) (h : d < 10) : (UInt8.ofNat (48 + d)).toNat = 48 + d := by
  rw [UInt8.toNat_ofNat']; omega
theorem dec_ind {p : Nat → Prop} (h0 : ∀ u, u < 10 → p u) (h1 : ∀ u, ¬ u < 10 → p (u / 10) → p u) (u : Nat) : p u := by
  induction u using Nat.strongRecOn with
  | _ u ih =>
    by_cases h : u < 10
    · exact h0 u h
    · exact h1 u h (ih (u / 10) (by omega))
theorem val_one (c : UInt8) : M.val [c] = (c.toNat : Int) - 48 := by simp [M.val]
theorem dec_val (u : Nat) : M.val (Lib.decDigits u) = (u : Int) := by
  induction u using dec_ind with
  | h0 u h => rw [Lib.decDigits_one h, val_one, digitByte u h]; omega
  | h1 u h ih => rw [dec_big u h, M.val_snoc, ih, digitByte _ (by omega)]; omega
theorem dec_all (u : Nat) : (Lib.decDigits u).all M.isDig = true := by
  induction u using dec_ind with
  | h0 u h => rw [Lib.decDigits_one h]; simp only [List.all_cons, List.all_nil, Bool.and_true]; rw [M.isDig_iff, digitByte u h]; omega
  | h1 u h ih =>
    rw [dec_big u h, List.all_append, ih, Bool.true_and]
    simp only [List.all_cons, List.all_nil, Bool.and_true]; rw [M.isDig_iff, digitByte _ (by omega)]; omega
theorem dec_ne (u : Nat) : Lib.decDigits u ≠ [] := by
  induction u using dec_ind with
  | h0 u h => rw [Lib.decDigits_one h]; simp
  | h1 u h ih => rw [dec_big u h]; simp
/-- No digit 0 leads, unless the number is 0. -/
theorem dec_head (u : Nat) (h : 0 < u) : ∃ c r, Lib.decDigits u = c :: r ∧ c.toNat ≠ 48 ∧ 48 ≤ c.toNat ∧ c.toNat ≤ 57 := by
  induction u using dec_ind with
  | h0 u hu => rw [Lib.decDigits_one hu]; exact ⟨_, _, rfl, by rw [digitByte u hu]; omega, by rw [digitByte u hu]; omega, by rw [digitByte u hu]; omega⟩
  | h1 u hu ih =>
    obtain ⟨c, r, hd, hc⟩ := ih (by omega)
    rw [dec_big u hu, hd]
    exact ⟨c, r ++ [_], rfl, hc⟩
theorem dec_ok (u : Nat) : M.digitsOk (Lib.decDigits u) = true := by
  by_cases h : 0 < u
  · obtain ⟨c, r, hd, hc, _⟩ := dec_head u h
    have ha := dec_all u
    rw [hd] at ha ⊢
    have e : (c == 48) = false := by rw [beq_eq_false_iff_ne]; intro he; rw [he] at hc; exact hc rfl
    have e2 : ((c :: r).head? == some 48) = false := by
      rw [List.head?_cons, beq_eq_false_iff_ne]; intro he; rw [Option.some.inj he] at hc; exact hc rfl
    rw [M.digitsOk, ha, e2]; simp
  · obtain rfl : u = 0 := by omega
    rw [Lib.decDigits_one (by omega)]; rfl
theorem dec_zero (u : Nat) (h : 0 < u) : (Lib.decDigits u == [48]) = false := by
  obtain ⟨c, r, hd, hc, _⟩ := dec_head u h
  rw [hd, beq_eq_false_iff_ne]
  intro he
  rw [List.cons.inj he |>.1] at hc
  exact hc rfl
theorem dec_nodash (u : Nat) : Lib.hasPrefix (Lib.decDigits u) [45] = false := by
  have ha := dec_all u
  cases hd : Lib.decDigits u with
  | nil => exact absurd hd (dec_ne u)
  | cons c r =>
    rw [hd] at ha
    simp only [List.all_cons, Bool.and_eq_true] at ha
    have hc := (M.isDig_iff c).1 ha.1
    rw [Lib.hasPrefix]
    simp only [List.isPrefixOf, Bool.and_true]
    rw [beq_eq_false_iff_ne]
    intro he
    rw [← he] at hc
    have : (45 : UInt8).toNat = 45 := rfl
    omega
/-- What is printed is parsed as it was. -/
theorem parse_print (n lo hi : Int) (hn : InI64 n) (h1 : lo ≤ n) (h2 : n ≤ hi) : parsed (Lib.itoa n) lo hi = (n, 0) := by
  obtain ⟨hn1, hn2⟩ := hn
  by_cases h : 0 ≤ n
  · obtain ⟨u, rfl⟩ := Int.eq_ofNat_of_zero_le h
    rw [Lib.itoa_nonneg, parsed, Lib.trimPrefix, dec_nodash]
    simp only [Bool.false_eq_true, if_false]
    refine parsedD_ok false _ lo hi _ ?_ ?_ ?_ h1 h2
    · rw [dec_ok]; rfl
    · rw [dec_val]; simp [valFits]; omega
    · rw [dec_val]; simp [valNum, valFits]; omega
  · obtain ⟨u, rfl⟩ : ∃ u : Nat, n = -(u : Int) := ⟨n.natAbs, by omega⟩
    have hu : 1 ≤ u := by omega
    have hp : Lib.hasPrefix (45 :: Lib.decDigits u) [45] = true := by
      rw [Lib.hasPrefix]; simp [List.isPrefixOf]
    rw [Lib.itoa_neg u hu, parsed, Lib.trimPrefix, hp]
    simp only [if_true, List.length_cons, List.length_nil, List.drop_succ_cons, List.drop_zero]
    refine parsedD_ok true _ lo hi _ ?_ ?_ ?_ h1 h2
    · rw [dec_ok, dec_zero u (by omega)]; rfl
    · rw [dec_val]; simp [valFits]; omega
    · rw [dec_val]; simp [valNum, valFits]; omega

theorem rev_ind {α : Type} {p : List α → Prop} (h0 : p []) (h1 : ∀ l a, p l → p (l ++ [a])) (l : List α) : p l := by
  have : ∀ r : List α, p r.reverse := by
    intro r
    induction r with
    | nil => exact h0
    | cons a r ih => rw [List.reverse_cons]; exact h1 _ _ ih
  have h := this l.reverse
  rwa [List.reverse_reverse] at h
/-- Digits without a leading 0 are the digits of their number. -/
theorem digits_unique (l : List UInt8) : l ≠ [] → l.all M.isDig = true → (1 < l.length → l.head? ≠ some 48) → 0 ≤ M.val l ∧ Lib.decDigits (M.val l).toNat = l := by
  induction l using rev_ind with
  | h0 => intro h; exact absurd rfl h
  | h1 l c ih =>
    intro _ ha hh
    rw [List.all_append, Bool.and_eq_true] at ha
    have hc : 48 ≤ c.toNat ∧ c.toNat ≤ 57 := by
      have := ha.2; simp only [List.all_cons, List.all_nil, Bool.and_true] at this; rwa [M.isDig_iff] at this
    have ec : UInt8.ofNat (48 + (c.toNat - 48)) = c := by
      apply UInt8.toNat_inj.1
      rw [UInt8.toNat_ofNat']; omega
    rw [M.val_snoc]
    cases l with
    | nil =>
      have e : 10 * M.val [] + ((c.toNat : Int) - 48) = ((c.toNat - 48 : Nat) : Int) := by
        have : M.val [] = 0 := rfl
        omega
      rw [e]
      refine ⟨by omega, ?_⟩
      rw [Int.toNat_natCast, Lib.decDigits_one (by omega), ec]; rfl
    | cons d r =>
      have hl := hh (by simp)
      have hd48 : d ≠ 48 := by intro he; exact hl (by rw [he]; rfl)
      obtain ⟨i1, i2⟩ := ih (by simp) ha.1 (fun _ he => hd48 (Option.some.inj he))
      obtain ⟨m, hm⟩ := Int.eq_ofNat_of_zero_le i1
      rw [hm] at i2 ⊢
      rw [Int.toNat_natCast] at i2
      have e : 10 * (m : Int) + ((c.toNat : Int) - 48) = ((10 * m + (c.toNat - 48) : Nat) : Int) := by omega
      rw [e]
      have hm0 : 0 < m := by
        rcases Nat.eq_zero_or_pos m with h | h
        · rw [h, Lib.decDigits_one (by omega)] at i2
          exact absurd (List.cons.inj i2).1.symm hd48
        · exact h
      refine ⟨by omega, ?_⟩
      rw [Int.toNat_natCast, dec_big _ (by omega), show (10 * m + (c.toNat - 48)) / 10 = m by omega, show (10 * m + (c.toNat - 48)) % 10 = c.toNat - 48 by omega, i2, ec]
theorem dok_parts (l : List UInt8) (h : M.digitsOk l = true) : l ≠ [] ∧ l.all M.isDig = true ∧ (1 < l.length → l.head? ≠ some 48) := by
  simp only [M.digitsOk, Bool.and_eq_true] at h
  refine ⟨?_, h.1.2, ?_⟩
  · intro he; rw [he] at h; exact absurd h.1.1 (by decide)
  · intro h1 h2
    have := h.2
    rw [h2] at this
    simp [h1] at this
/-- What is parsed is printed as it was. -/
theorem print_parse (l : List UInt8) (lo hi y : Int) (h : parsed l lo hi = (y, 0)) : Lib.itoa y = l := by
  rw [parsed] at h
  have hcase : (Lib.hasPrefix l [45] = true ∧ l = 45 :: Lib.trimPrefix l [45]) ∨ (Lib.hasPrefix l [45] = false ∧ Lib.trimPrefix l [45] = l) := by
    cases hp : Lib.hasPrefix l [45]
    · exact Or.inr ⟨rfl, by rw [Lib.trimPrefix, hp]; rfl⟩
    · refine Or.inl ⟨rfl, ?_⟩
      rw [Lib.trimPrefix, hp]
      cases l with
      | nil => cases hp
      | cons c r =>
        rw [Lib.hasPrefix] at hp
        simp only [List.isPrefixOf, Bool.and_true] at hp
        rw [← beq_iff_eq.1 hp]; rfl
  generalize Lib.trimPrefix l [45] = d at *
  generalize Lib.hasPrefix l [45] = neg at *
  rw [parsedD] at h
  split at h
  · rename_i hd
    split at h
    · rename_i hf
      have hy : valNum neg (M.val d) = y := (Prod.mk.inj h).1
      have hdo : M.digitsOk d = true := by
        cases hx : M.digitsOk d
        · rw [hx] at hd; simp at hd
        · rfl
      have hfits : valFits neg (M.val d) = true := by
        cases hx : valFits neg (M.val d)
        · rw [hx] at hf; simp at hf
        · rfl
      obtain ⟨q1, q2, q3⟩ := dok_parts d hdo
      obtain ⟨r1, r2⟩ := digits_unique d q1 q2 q3
      obtain ⟨m, hm⟩ := Int.eq_ofNat_of_zero_le r1
      rw [hm, Int.toNat_natCast] at r2
      rw [valNum, hfits, hm] at hy
      rcases hcase with ⟨hn, hl⟩ | ⟨hn, hl⟩
      · rw [hn] at hy hd
        simp only [if_true] at hy
        have hm0 : 1 ≤ m := by
          rcases Nat.eq_zero_or_pos m with h0 | h0
          · rw [h0, Lib.decDigits_one (by omega)] at r2
            rw [← r2] at hd
            exact absurd hd (by decide)
          · exact h0
        rw [← hy, Lib.itoa_neg m hm0, r2, ← hl]
      · rw [hn] at hy
        simp only [if_true, Bool.false_eq_true, if_false] at hy
        rw [← hy, Lib.itoa_nonneg, r2, hl]
    · cases h
  · cases h
end Go.Proofs.YtmfofgakenpnaaaDoor
