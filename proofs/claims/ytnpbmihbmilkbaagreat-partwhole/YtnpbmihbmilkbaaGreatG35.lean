/- No program in it: what is left to sort, and what is sorted around it. -/
import Derived.Test.YtnpbmihbmilkbaaGreatG31
import Derived.Test.YtnpbmihbmilkbaaGreatG33
import Derived.Test.YtnpbmihbmilkbaaGreatG34
namespace Go.Proofs.YtnpbmihbmilkbaaGreat
/-- Every pair that does not lie in the range from a' to b' is in order. -/
def OutS (m : List Int) (a b a' b' : Nat) : Prop := ∀ p q, a ≤ p → p < q → q < b → (p < a' ∨ b' ≤ q) → m.getD p 0 ≤ m.getD q 0
theorem out_start (m : List Int) (a b : Nat) : OutS m a b a b := fun p q h1 h2 h3 h4 => by omega
theorem OutS.per {m k : List Int} {a b a' b' : Nat} (h : OutS m a b a' b') (ha : a ≤ a') (hb : b' ≤ b) (hp : Per a' b' m k) : OutS k a b a' b' := fun p q h1 h2 h3 h4 => by
  by_cases ep : p < a' ∨ b' ≤ p
  · rw [hp.out ep]
    by_cases eq : q < a' ∨ b' ≤ q
    · rw [hp.out eq]; exact h p q h1 h2 h3 h4
    · refine hp.all (Q := fun y => m.getD p 0 ≤ y) (fun j g1 g2 => h p j h1 (by omega) (by omega) (by omega)) q (by omega) (by omega)
  · have eq : q < a' ∨ b' ≤ q := by omega
    rw [hp.out eq]
    exact hp.all (Q := fun y => y ≤ m.getD q 0) (fun j g1 g2 => h j q (by omega) (by omega) h3 (by omega)) p (by omega) (by omega)
theorem OutS.sd {m : List Int} {a b a' b' : Nat} (h : OutS m a b a' b') (hs : Sd m a' b') : Sd m a b := fun p q h1 h2 h3 => by
  by_cases e : p < a' ∨ b' ≤ q
  · exact h p q h1 h2 h3 e
  · exact hs p q (by omega) h2 (by omega)
section
variable {m k : List Int} {a b a' b' c : Nat} (h : OutS m a b a' b') (ha : a ≤ a') (hb : b' ≤ b) (hc : a' ≤ c ∧ c < b') (ht : Prt m a' b' c)
include h ha hb hc ht
theorem out_left (hl : b' ≤ m.length) (hp : Per a' c m k) (hs : Sd k a' c) : OutS k a b (c + 1) b' := fun p q h1 h2 h3 h4 => by
  by_cases e : p < a' ∨ b' ≤ q
  · exact (h.per ha hb (hp.mono (Nat.le_refl _) (by omega) hl)) p q h1 h2 h3 e
  · have hle : ∀ p, a' ≤ p → p < c → k.getD p 0 ≤ m.getD c 0 := hp.all (Q := fun y => y ≤ m.getD c 0) (fun j g1 g2 => ht.le j g1 g2)
    by_cases e1 : q < c
    · exact hs p q (by omega) h2 e1
    · rw [hp.out (k := q) (.inr (by omega))]
      by_cases e2 : p < c
      · by_cases e3 : q = c
        · rw [e3]; exact hle p (by omega) e2
        · exact Int.le_trans (hle p (by omega) e2) (ht.ge q (by omega) (by omega))
      · rw [hp.out (k := p) (.inr (by omega)), show p = c by omega]
        exact ht.ge q (by omega) (by omega)
theorem out_right (hl : b' ≤ m.length) (hp : Per (c + 1) b' m k) (hs : Sd k (c + 1) b') : OutS k a b a' c := fun p q h1 h2 h3 h4 => by
  by_cases e : p < a' ∨ b' ≤ q
  · exact (h.per ha hb (hp.mono (by omega) (Nat.le_refl _) hl)) p q h1 h2 h3 e
  · have hge : ∀ p, c + 1 ≤ p → p < b' → m.getD c 0 ≤ k.getD p 0 := hp.all (Q := fun y => m.getD c 0 ≤ y) (fun j g1 g2 => ht.ge j (by omega) g2)
    by_cases e1 : c + 1 ≤ p
    · exact hs p q e1 h2 (by omega)
    · rw [hp.out (k := p) (.inl (by omega))]
      by_cases e2 : c + 1 ≤ q
      · by_cases e3 : p = c
        · rw [e3]; exact hge q e2 (by omega)
        · exact Int.le_trans (ht.le p (by omega) (by omega)) (hge q e2 (by omega))
      · rw [hp.out (k := q) (.inl (by omega)), show q = c by omega]
        exact ht.le p (by omega) (by omega)
end
theorem prd_right {m k : List Int} {a' b' c : Nat} (ht : Prt m a' b' c) (hp : Per a' c m k) : Prd k (c + 1) b' := fun _ q h1 h2 => by
  rw [Nat.add_sub_cancel, hp.out (.inr (Nat.le_refl _)), hp.out (.inr (by omega))]
  exact ht.ge q (by omega) h2
theorem prd_right0 {m : List Int} {a' b' c : Nat} (ht : Prt m a' b' c) : Prd m (c + 1) b' := prd_right ht (.refl m)
theorem prd_left {m k : List Int} {a' b' c : Nat} (h : Prd m a' b') (hc : c < b') (hp : Per (c + 1) b' m k) : Prd k a' c := fun ha q h1 h2 => by
  rw [hp.out (.inl (by omega)), hp.out (.inl (by omega))]
  exact h ha q h1 (by omega)
theorem prd_left0 {m : List Int} {a' b' c : Nat} (h : Prd m a' b') (hc : c < b') : Prd m a' c := prd_left h hc (.refl m)
theorem out_equal {m k : List Int} {a b a' b' c p : Nat} (h : OutS m a b a' b') (ha : a ≤ a') (hb : b' ≤ b) (hp : Per a' b' m k) (hpr : Prd m a' b') (h0 : 0 < a') (hv : ¬ m.getD (a' - 1) 0 < m.getD p 0)
    (hle : ∀ q, a' ≤ q → q < c → k.getD q 0 ≤ m.getD p 0) (hgt : ∀ q, c ≤ q → q < b' → m.getD p 0 < k.getD q 0) : OutS k a b c b' := fun i q h1 h2 h3 h4 => by
  by_cases e : i < a' ∨ b' ≤ q
  · exact h.per ha hb hp i q h1 h2 h3 e
  · have hi := hle i (by omega) (by omega)
    by_cases e1 : q < c
    · have h5 := pred_at hpr hp (q := q) ⟨by omega, by omega⟩ h0
      rw [hp.out (.inl (by omega))] at h5
      omega
    · have := hgt q (by omega) (by omega); omega
theorem prd_equal {m k : List Int} {a' b' c p : Nat} (hc : a' < c) (hle : ∀ q, a' ≤ q → q < c → k.getD q 0 ≤ m.getD p 0) (hgt : ∀ q, c ≤ q → q < b' → m.getD p 0 < k.getD q 0) : Prd k c b' := fun _ q h1 h2 => by
  have := hle (c - 1) (by omega) (by omega)
  have := hgt q h1 h2
  omega
end Go.Proofs.YtnpbmihbmilkbaaGreat
