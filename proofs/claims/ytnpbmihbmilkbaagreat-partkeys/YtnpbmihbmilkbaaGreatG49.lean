/- The size of a map of groups: the number of its keys. -/
import Derived.Test.YtnpbmihbmilkbaaGreatG48
import Derived.Maps.Ext
namespace Go.Proofs.YtnpbmihbmilkbaaGreat
open Go.RowKit Go.Shelf Go.Maps
theorem has_lit {es : List (Lit × DataW Value)} (hk : ∀ p ∈ es, WideAt.IsKeyLit p.1) {p : Lit × DataW Value} (hp : p ∈ es) : Maps.has (.map es) p.1 = true := List.any_eq_true.2 ⟨p, hp, WideAt.sameKey_self (hk p hp)⟩
section
variable {K : Type} [Inhabited (MKd K)]
theorem size_keys : ∀ (L : List K) (D : DataW Value), Maps.Tidy D → (∃ es, D = .map es ∧ ∀ p ∈ es, WideAt.IsKeyLit p.1) → L.Nodup → (∀ k ∈ L, MK.ok k) → (∀ l, Maps.has D l = true ↔ ∃ k ∈ L, keyOf Tryz.prog (MK.tk K) (MK.kv k) = some l) → Maps.size D = L.length
  | [], D, _, ⟨es, e, hk⟩, _, _, h => by
    subst e
    cases es with
    | nil => rfl
    | cons p t =>
      obtain ⟨_, hm, _⟩ := (h p.1).1 (has_lit hk (List.mem_cons_self ..))
      cases hm
  | k :: t, D, hT, ⟨es, e, hk⟩, hn, hok, h => by
    obtain ⟨h1, h2⟩ := List.nodup_cons.1 hn
    obtain ⟨l, hl⟩ := MK.lit k (hok k (List.mem_cons_self ..))
    have hd : Maps.has D l = true := (h l).2 ⟨k, List.mem_cons_self .., hl⟩
    have hs := Maps.size_del (k := l) hT
    rw [if_pos hd] at hs
    have ih := size_keys t (D.del l) (hT.del l) (by
      subst e
      exact ⟨_, rfl, fun p hp => hk p (List.mem_filter.1 hp).1⟩) h2 (fun k' hk' => hok k' (List.mem_cons_of_mem _ hk')) (fun l' => by
      by_cases e2 : l' = l
      · subst e2
        rw [Maps.has_del_same]
        refine ⟨fun e => (by cases e), fun ⟨k', hk', hl'⟩ => ?_⟩
        have := key_sameG (hok k' (List.mem_cons_of_mem _ hk')) (hok k (List.mem_cons_self ..)) hl' hl
        exact absurd (this ▸ hk') h1
      · rw [Maps.has_del_other e2, h]
        constructor
        · rintro ⟨k', hk', hl'⟩
          rcases List.mem_cons.1 hk' with rfl | hk'
          · rw [hl] at hl'; exact absurd (Option.some.inj hl').symm e2
          · exact ⟨k', hk', hl'⟩
        · rintro ⟨k', hk', hl'⟩
          exact ⟨k', List.mem_cons_of_mem _ hk', hl'⟩)
    rw [List.length_cons]
    omega
end
theorem Grps.msize {w : World} {B b n : Nat} {ky : Am → Int} {s : List Am} (h : Grps w B b n ky s) : msize w b = (keysS ky s).length := by
  obtain ⟨f, h1, h2⟩ := h.ex
  obtain ⟨D, o1, r1⟩ := h1.own
  rw [← (msize_isG o1).1]
  have hf : ∀ k, k ∈ keysS ky s ↔ ∃ v, f k = some v := fun k => by
    unfold keysS
    rw [mem_rise, List.mem_map]
    constructor
    · rintro ⟨x, hx, e⟩
      cases e2 : f k with
      | none => exact absurd e (h2.no k trivial e2 x hx)
      | some v => exact ⟨v, rfl⟩
    · rintro ⟨v, e⟩
      obtain ⟨_, x, hx, e2⟩ := h2.row k v trivial e
      exact ⟨x, hx, e2⟩
  obtain ⟨es, e1, _, e3⟩ := o1.canon MK.keyed
  refine size_keys (keysS ky s) D (o1.tidy MK.keyed) ⟨es, e1, e3⟩ (asc_nodup (asc_rise _)) (fun k hk => ?_) (fun l => ⟨fun e => ?_, ?_⟩)
  · obtain ⟨v, e⟩ := (hf k).1 hk
    exact h1.ok k v e
  · obtain ⟨k, v, e4, e5⟩ := r1.only l e
    exact ⟨k, (hf k).2 ⟨v, e4⟩, e5⟩
  · rintro ⟨k, hk, e⟩
    obtain ⟨v, e4⟩ := (hf k).1 hk
    exact (r1.at_ k v l e4 e).1
end Go.Proofs.YtnpbmihbmilkbaaGreat
