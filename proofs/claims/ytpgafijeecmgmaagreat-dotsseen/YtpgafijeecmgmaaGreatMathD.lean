/- No program in it: sets of dots as floors and clouds, their normal forms; heaps; what the reference lays by. No program in it: the dots of the tags of a row. -/
import Derived.Test.YtpgafijeecmgmaaGreatMathV
namespace Go.Proofs.YtpgafijeecmgmaaGreat

def may (d : Int) : Bool := decide (0 ≤ d) && (decide (d / 4294967296 < 16) && decide (0 < d % 4294967296))
def und (f : List Int) (d : Int) : Bool := decide (d % 4294967296 ≤ f.getD (d / 4294967296).toNat 0)
def near (f : List Int) (d : Int) : Bool := und f d || decide (d % 4294967296 - f.getD (d / 4294967296).toNat 0 = 1)
def has (f c : List Int) (d : Int) : Bool := may d && (und f d || c.contains d)
theorem may_iff {d : Int} : may d = true ↔ 0 ≤ d ∧ d / 4294967296 < 16 ∧ 0 < d % 4294967296 := by simp [may]
theorem und_iff {f : List Int} {d : Int} : und f d = true ↔ d % 4294967296 ≤ f.getD (d / 4294967296).toNat 0 := by simp [und]
theorem und_not {f : List Int} {d : Int} : und f d = false ↔ f.getD (d / 4294967296).toNat 0 < d % 4294967296 := by simp [und]
theorem hasd_iff {f c : List Int} {d : Int} : has f c d = true ↔ may d = true ∧ (und f d = true ∨ d ∈ c) := by simp [has]
structure Nf (f c : List Int) : Prop where
  srt : c.Pairwise (· < ·)
  ok : ∀ d ∈ c, may d = true ∧ f.getD (d / 4294967296).toNat 0 + 2 ≤ d % 4294967296
theorem VOk.at {f : List Int} (h : VOk f) (i : Nat) : 0 ≤ f.getD i 0 ∧ f.getD i 0 < 4294967296 := by
  by_cases hi : i < f.length
  · rw [getD_at hi]; exact h.rg _ (List.getElem_mem hi)
  · rw [List.getD_eq_getElem?_getD, List.getElem?_eq_none (by omega), Option.getD_none]; omega
theorem srt_mem : ∀ {a b : List Int}, a.Pairwise (· < ·) → b.Pairwise (· < ·) → (∀ x, x ∈ a ↔ x ∈ b) → a = b
  | [], [], _, _, _ => rfl
  | [], y :: b, _, _, h => absurd ((h y).2 List.mem_cons_self) (by simp)
  | x :: a, [], _, _, h => absurd ((h x).1 List.mem_cons_self) (by simp)
  | x :: a, y :: b, ha, hb, h => by
    rw [List.pairwise_cons] at ha hb
    have e : x = y := by
      rcases List.mem_cons.1 ((h x).1 List.mem_cons_self) with e | e
      · exact e
      rcases List.mem_cons.1 ((h y).2 List.mem_cons_self) with e' | e'
      · exact e'.symm
      have := hb.1 x e; have := ha.1 y e'; omega
    subst e
    rw [srt_mem ha.2 hb.2 fun z => ?_]
    constructor
    · intro hz
      rcases List.mem_cons.1 ((h z).1 (List.mem_cons_of_mem _ hz)) with e | e
      · have := ha.1 z hz; omega
      · exact e
    · intro hz
      rcases List.mem_cons.1 ((h z).2 (List.mem_cons_of_mem _ hz)) with e | e
      · have := hb.1 z hz; omega
      · exact e
theorem nf_floor {f c f' c' : List Int} (hf : VOk f) (hf' : VOk f') (h' : Nf f' c') (e : ∀ d, has f c d = true → has f' c' d = true) (i : Nat) (hi : i < 16) : f.getD i 0 ≤ f'.getD i 0 := by
  by_cases hlt : f.getD i 0 ≤ f'.getD i 0
  · exact hlt
  have a := hf.at i
  have b := hf'.at i
  have hd : ((i : Int) * 4294967296 + (f'.getD i 0 + 1)) / 4294967296 = i := by omega
  have hm : ((i : Int) * 4294967296 + (f'.getD i 0 + 1)) % 4294967296 = f'.getD i 0 + 1 := by omega
  have := e ((i : Int) * 4294967296 + (f'.getD i 0 + 1)) (hasd_iff.2 ⟨may_iff.2 ⟨by omega, by omega, by omega⟩, .inl (und_iff.2 (by rw [hd, hm, Int.toNat_natCast]; omega))⟩)
  rcases (hasd_iff.1 this).2 with h | h
  · rw [und_iff, hd, hm, Int.toNat_natCast] at h; omega
  · have := (h'.ok _ h).2
    rw [hd, hm, Int.toNat_natCast] at this; omega
theorem nf_unique {f c f' c' : List Int} (hf : VOk f) (hf' : VOk f') (h : Nf f c) (h' : Nf f' c') (e : ∀ d, has f c d = true ↔ has f' c' d = true) : f = f' ∧ c = c' := by
  have ef : f = f' := by
    apply List.ext_getElem (by rw [hf.len, hf'.len])
    intro i h1 h2
    have a := nf_floor hf hf' h' (fun d => (e d).1) i (by rw [← hf.len]; exact h1)
    have b := nf_floor hf' hf h (fun d => (e d).2) i (by rw [← hf.len]; exact h1)
    rw [getD_at h1, getD_at h2] at a b
    omega
  subst ef
  refine ⟨rfl, srt_mem h.srt h'.srt fun d => ⟨fun hd => ?_, fun hd => ?_⟩⟩
  · rcases (hasd_iff.1 ((e d).1 (hasd_iff.2 ⟨(h.ok d hd).1, .inr hd⟩))).2 with u | u
    · have := (h.ok d hd).2; rw [und_iff] at u; omega
    · exact u
  · rcases (hasd_iff.1 ((e d).2 (hasd_iff.2 ⟨(h'.ok d hd).1, .inr hd⟩))).2 with u | u
    · have := (h'.ok d hd).2; rw [und_iff] at u; omega
    · exact u
theorem sum_set (f : List Int) (i : Nat) (x : Int) (hi : i < f.length) : (f.set i x).sum = f.sum - f.getD i 0 + x := by
  induction f generalizing i with
  | nil => exact absurd hi (by simp)
  | cons a f ih =>
    cases i with
    | zero => simp only [List.set_cons_zero, List.sum_cons, List.getD_cons_zero]; omega
    | succ i =>
      simp only [List.set_cons_succ, List.sum_cons, List.getD_cons_succ]
      rw [ih i (by simpa using hi)]; omega
theorem getD_set (f : List Int) (i j : Nat) (x : Int) (hi : i < f.length) : (f.set i x).getD j 0 = if i = j then x else f.getD j 0 := by
  rw [List.getD_eq_getElem?_getD, List.getElem?_set]
  by_cases h : i = j
  · subst h; simp [hi]
  · simp [h, List.getD_eq_getElem?_getD]
/-- A set being settled: what waits (q), what is settled (f, c). -/
structure Inv (P : Int → Prop) (n : Int) (f c q : List Int) : Prop where
  v : VOk f
  nf : Nf f c
  lt : ∀ e ∈ c, ∀ d ∈ q, e < d
  ok : ∀ d ∈ q, may d = true ∧ und f d = false
  nd : q.Nodup
  is : ∀ d, P d ↔ (has f c d = true ∨ d ∈ q)
  cnt : f.sum + c.length + q.length ≤ n
theorem Inv.join {P : Int → Prop} {n : Int} {f c q q' : List Int} {m : Int} (h : Inv P n f c q) (hp : q.Perm (m :: q')) (hm : ∀ d ∈ q, m ≤ d) (hn : near f m = true) :
    Inv P n (f.set (m / 4294967296).toNat (m % 4294967296)) c q' := by
  have hmq : m ∈ q := hp.mem_iff.2 List.mem_cons_self
  have ⟨m1, m2⟩ := h.ok m hmq
  have mm := may_iff.1 m1
  have hi : (m / 4294967296).toNat < f.length := by rw [h.v.len]; omega
  have mu := und_not.1 m2
  have he : m % 4294967296 = f.getD (m / 4294967296).toNat 0 + 1 := by
    simp only [near, m2, Bool.false_or, decide_eq_true_eq] at hn; omega
  have sub : ∀ d ∈ q', d ∈ q := fun d hd => hp.mem_iff.2 (List.mem_cons_of_mem _ hd)
  have hnd := (hp.nodup_iff.1 h.nd)
  rw [List.nodup_cons] at hnd
  have ul : ∀ d, may d = true → (und (f.set (m / 4294967296).toNat (m % 4294967296)) d = true ↔ und f d = true ∨ d = m) := by
    intro d hd
    have dd := may_iff.1 hd
    rw [und_iff, und_iff, getD_set _ _ _ _ hi]
    by_cases h1 : (m / 4294967296).toNat = (d / 4294967296).toNat
    · rw [if_pos h1, ← h1]
      constructor
      · intro h2
        by_cases h3 : d % 4294967296 ≤ f.getD (m / 4294967296).toNat 0
        · exact .inl h3
        · right; omega
      · rintro (h2 | h2)
        · omega
        · subst h2; omega
    · rw [if_neg h1]
      constructor
      · exact .inl
      · rintro (h2 | h2)
        · exact h2
        · subst h2; exact absurd rfl h1
  refine ⟨⟨by rw [List.length_set]; exact h.v.len, fun x hx => ?_⟩, ⟨h.nf.srt, fun d hd => ⟨(h.nf.ok d hd).1, ?_⟩⟩, fun e he d hd => h.lt e he d (sub d hd), fun d hd => ⟨(h.ok d (sub d hd)).1, ?_⟩, hnd.2, fun d => ?_, ?_⟩
  · rcases List.mem_or_eq_of_mem_set hx with h1 | h1
    · exact h.v.rg x h1
    · subst h1; omega
  · have a := h.nf.ok d hd
    have b := h.lt d hd m hmq
    have dd := may_iff.1 a.1
    rw [getD_set _ _ _ _ hi]
    split
    · rename_i h1
      rw [← h1] at a
      omega
    · exact a.2
  · have a := h.ok d (sub d hd)
    cases hu : und (f.set (m / 4294967296).toNat (m % 4294967296)) d with
    | false => rfl
    | true =>
      rcases (ul d a.1).1 hu with h1 | h1
      · rw [a.2] at h1; exact absurd h1 (by simp)
      · subst h1; exact absurd hd hnd.1
  · rw [h.is d, hasd_iff, hasd_iff, hp.mem_iff, List.mem_cons]
    constructor
    · rintro (⟨h1, h2 | h2⟩ | h2 | h2)
      · exact .inl ⟨h1, .inl ((ul d h1).2 (.inl h2))⟩
      · exact .inl ⟨h1, .inr h2⟩
      · subst h2; exact .inl ⟨m1, .inl ((ul d m1).2 (.inr rfl))⟩
      · exact .inr h2
    · rintro (⟨h1, h2 | h2⟩ | h2)
      · rcases (ul d h1).1 h2 with h3 | h3
        · exact .inl ⟨h1, .inl h3⟩
        · exact .inr (.inl h3)
      · exact .inl ⟨h1, .inr h2⟩
      · exact .inr (.inr h2)
  · rw [sum_set _ _ _ hi]
    have a := hp.length_eq
    have b := h.cnt
    rw [List.length_cons] at a
    omega
theorem Inv.far {P : Int → Prop} {n : Int} {f c q q' : List Int} {m : Int} (h : Inv P n f c q) (hp : q.Perm (m :: q')) (hm : ∀ d ∈ q, m ≤ d) (hn : near f m = false) :
    Inv P n f (c ++ [m]) q' := by
  have hmq : m ∈ q := hp.mem_iff.2 List.mem_cons_self
  have ⟨m1, m2⟩ := h.ok m hmq
  have mm := may_iff.1 m1
  have mu := und_not.1 m2
  have sub : ∀ d ∈ q', d ∈ q := fun d hd => hp.mem_iff.2 (List.mem_cons_of_mem _ hd)
  have hnd := (hp.nodup_iff.1 h.nd)
  rw [List.nodup_cons] at hnd
  have he : f.getD (m / 4294967296).toNat 0 + 2 ≤ m % 4294967296 := by
    simp only [near, m2, Bool.false_or, decide_eq_false_iff_not] at hn; omega
  refine ⟨h.v, ⟨?_, fun d hd => ?_⟩, fun e he d hd => ?_, fun d hd => h.ok d (sub d hd), hnd.2, fun d => ?_, ?_⟩
  · rw [List.pairwise_append]
    exact ⟨h.nf.srt, List.pairwise_singleton _ _, fun a ha b hb => by rw [List.mem_singleton] at hb; subst hb; exact h.lt a ha b hmq⟩
  · rcases List.mem_append.1 hd with h1 | h1
    · exact h.nf.ok d h1
    · rw [List.mem_singleton] at h1; subst h1; exact ⟨m1, he⟩
  · rcases List.mem_append.1 he with h1 | h1
    · exact h.lt e h1 d (sub d hd)
    · rw [List.mem_singleton] at h1; subst h1
      have := hm d (sub d hd)
      have : d ≠ e := fun x => hnd.1 (x ▸ hd)
      omega
  · rw [h.is d, hasd_iff, hasd_iff, hp.mem_iff, List.mem_cons, List.mem_append, List.mem_singleton]
    constructor
    · rintro (⟨h1, h2 | h2⟩ | h2 | h2)
      · exact .inl ⟨h1, .inl h2⟩
      · exact .inl ⟨h1, .inr (.inl h2)⟩
      · subst h2; exact .inl ⟨m1, .inr (.inr rfl)⟩
      · exact .inr h2
    · rintro (⟨h1, h2 | h2 | h2⟩ | h2)
      · exact .inl ⟨h1, .inl h2⟩
      · exact .inl ⟨h1, .inr h2⟩
      · exact .inr (.inl h2)
      · exact .inr (.inr h2)
  · have a := hp.length_eq
    have := h.cnt
    rw [List.length_append, List.length_singleton]
    rw [List.length_cons] at a
    omega
theorem least_ex : ∀ (q : List Int), q ≠ [] → ∃ m ∈ q, ∀ d ∈ q, m ≤ d
  | [], h => absurd rfl h
  | [x], _ => ⟨x, by simp, by simp⟩
  | x :: y :: q, _ => by
    obtain ⟨m, h1, h2⟩ := least_ex (y :: q) (by simp)
    by_cases h : x ≤ m
    · exact ⟨x, by simp, fun d hd => by
        rcases List.mem_cons.1 hd with e | e
        · omega
        · have := h2 d e; omega⟩
    · exact ⟨m, List.mem_cons_of_mem _ h1, fun d hd => by
        rcases List.mem_cons.1 hd with e | e
        · omega
        · exact h2 d e⟩
theorem Inv.done {P : Int → Prop} {n : Int} : ∀ (k : Nat) {f c q : List Int}, q.length = k → Inv P n f c q → ∃ f' c', Inv P n f' c' [] ∧ c'.length ≤ c.length + q.length
  | 0, f, c, q, hk, h => ⟨f, c, by rw [List.length_eq_zero_iff] at hk; subst hk; exact ⟨h, by simp⟩⟩
  | k + 1, f, c, q, hk, h => by
    obtain ⟨m, h1, h2⟩ := least_ex q (by intro e; subst e; simp at hk)
    have hp := List.perm_cons_erase h1
    have hl := hp.length_eq
    simp only [List.length_cons] at hl
    cases hn : near f m with
    | true =>
      obtain ⟨f', c', a, b⟩ := Inv.done k (by omega) (h.join hp h2 hn)
      exact ⟨f', c', a, by omega⟩
    | false =>
      obtain ⟨f', c', a, b⟩ := Inv.done k (by omega) (h.far hp h2 hn)
      rw [List.length_append, List.length_singleton] at b
      exact ⟨f', c', a, by omega⟩
theorem Nf.nil (f : List Int) : Nf f [] := ⟨List.Pairwise.nil, fun _ h => absurd h (by simp)⟩
/-- What waits of l: the valid dots that the floor does not cover, each once. -/
structure Waits (f l q : List Int) : Prop where
  nd : q.Nodup
  is : ∀ d, d ∈ q ↔ d ∈ l ∧ may d = true ∧ und f d = false
  len : q.length ≤ l.length
theorem Waits.nil (f : List Int) : Waits f [] [] := ⟨List.nodup_nil, by simp, by simp⟩
theorem Waits.skip {f l q : List Int} {d : Int} (h : Waits f l q) (hd : d ∈ q ∨ may d = false ∨ und f d = true) : Waits f (l ++ [d]) q := by
  refine ⟨h.nd, fun x => ?_, by have := h.len; simp only [List.length_append, List.length_cons]; omega⟩
  rw [h.is, List.mem_append, List.mem_singleton]
  constructor
  · rintro ⟨a, b⟩; exact ⟨.inl a, b⟩
  · rintro ⟨a | a, b, c⟩
    · exact ⟨a, b, c⟩
    · subst a
      rcases hd with e | e | e
      · exact ⟨((h.is x).1 e).1, b, c⟩
      · rw [e] at b; exact absurd b (by simp)
      · rw [e] at c; exact absurd c (by simp)
theorem Waits.push {f l q q' : List Int} {d : Int} (h : Waits f l q) (hd : d ∉ q) (hm : may d = true) (hu : und f d = false) (hp : q'.Perm (d :: q)) : Waits f (l ++ [d]) q' := by
  refine ⟨hp.nodup_iff.2 (List.nodup_cons.2 ⟨hd, h.nd⟩), fun x => ?_, by have := h.len; rw [hp.length_eq]; simp only [List.length_append, List.length_cons, List.length_nil]; omega⟩
  rw [hp.mem_iff, List.mem_cons, h.is, List.mem_append, List.mem_singleton]
  constructor
  · rintro (a | ⟨a, b⟩)
    · subst a; exact ⟨.inr rfl, hm, hu⟩
    · exact ⟨.inl a, b⟩
  · rintro ⟨a | a, b⟩
    · exact .inr ⟨a, b⟩
    · exact .inl a
theorem waits_ex (f : List Int) : ∀ l, ∃ q, Waits f l q := by
  intro l
  suffices ∀ r p q, Waits f p q → ∃ q', Waits f (p ++ r) q' by simpa using this l [] [] (Waits.nil f)
  intro r
  induction r with
  | nil => intro p q h; exact ⟨q, by simpa using h⟩
  | cons d r ih =>
    intro p q h
    have e : p ++ d :: r = (p ++ [d]) ++ r := by simp
    rw [e]
    by_cases h1 : d ∈ q
    · exact ih _ _ (h.skip (.inl h1))
    cases h2 : may d with
    | false => exact ih _ _ (h.skip (.inr (.inl h2)))
    | true =>
      cases h3 : und f d with
      | true => exact ih _ _ (h.skip (.inr (.inr h3)))
      | false => exact ih _ (d :: q) (h.push h1 h2 h3 (List.Perm.refl _))
theorem Waits.inv {f l q : List Int} (hf : VOk f) (h : Waits f l q) : Inv (fun d => has f l d = true) (f.sum + l.length) f [] q := by
  refine ⟨hf, Nf.nil f, fun e he => absurd he (by simp), fun d hd => ((h.is d).1 hd).2, h.nd, fun d => ?_, by have := h.len; simp only [List.length_nil]; omega⟩
  rw [hasd_iff, hasd_iff, h.is]
  constructor
  · rintro ⟨a, b | b⟩
    · exact .inl ⟨a, .inl b⟩
    · cases hu : und f d with
      | true => exact .inl ⟨a, .inl rfl⟩
      | false => exact .inr ⟨b, a, rfl⟩
  · rintro (⟨a, b | b⟩ | ⟨a, b, c⟩)
    · exact ⟨a, .inl b⟩
    · exact absurd b (by simp)
    · exact ⟨b, .inr a⟩
/-- What a set with this floor and these dots is in normal form. -/
structure NfOf (f l f' c' : List Int) : Prop where
  v : VOk f'
  nf : Nf f' c'
  is : ∀ d, has f' c' d = true ↔ has f l d = true
  cnt : f'.sum + c'.length ≤ f.sum + l.length
  len : c'.length ≤ l.length
theorem Inv.nfOf {f l f' c' : List Int} (h : Inv (fun d => has f l d = true) (f.sum + l.length) f' c' []) (hl : c'.length ≤ l.length) : NfOf f l f' c' :=
  ⟨h.v, h.nf, fun d => by rw [h.is d]; simp, by have := h.cnt; simp only [List.length_nil] at this; omega, hl⟩
theorem nfOf_ex {f : List Int} (hf : VOk f) (l : List Int) : ∃ p : List Int × List Int, NfOf f l p.1 p.2 := by
  obtain ⟨q, hq⟩ := waits_ex f l
  obtain ⟨f', c', h, hl⟩ := Inv.done q.length rfl (hq.inv hf)
  exact ⟨(f', c'), h.nfOf (by have := hq.len; simp only [List.length_nil] at hl; omega)⟩
open Classical in
noncomputable def nrm (f l : List Int) : List Int × List Int := if h : VOk f then Classical.choose (nfOf_ex h l) else (f, l)
theorem nrm_of {f : List Int} (hf : VOk f) (l : List Int) : NfOf f l (nrm f l).1 (nrm f l).2 := by
  unfold nrm; rw [dif_pos hf]; exact Classical.choose_spec (nfOf_ex hf l)
theorem nrm_eq {f l f' c' : List Int} (hf : VOk f) (hv : VOk f') (h : Nf f' c') (e : ∀ d, has f' c' d = true ↔ has f l d = true) : f' = (nrm f l).1 ∧ c' = (nrm f l).2 := by
  have H := nrm_of hf l
  exact nf_unique hv H.v h H.nf fun d => (e d).trans (H.is d).symm
theorem nrm_same {f l f' l' : List Int} (hf : VOk f) (hf' : VOk f') (e : ∀ d, has f l d = true ↔ has f' l' d = true) : nrm f l = nrm f' l' := by
  have H := nrm_of hf l
  have := nrm_eq hf' H.v H.nf fun d => (H.is d).trans (e d)
  exact Prod.ext this.1 this.2
theorem has_app {f a b : List Int} {d : Int} : has f (a ++ b) d = true ↔ has f a d = true ∨ (may d = true ∧ d ∈ b) := by
  rw [hasd_iff, hasd_iff, List.mem_append]
  constructor
  · rintro ⟨h, a | a | a⟩
    · exact .inl ⟨h, .inl a⟩
    · exact .inl ⟨h, .inr a⟩
    · exact .inr ⟨h, a⟩
  · rintro (⟨h, a | a⟩ | ⟨h, a⟩)
    · exact ⟨h, .inl a⟩
    · exact ⟨h, .inr (.inl a)⟩
    · exact ⟨h, .inr (.inr a)⟩
/-- A set in normal form with more: as the dots ahead of it with more. -/
theorem nrm_nrm {f : List Int} (hf : VOk f) (l m : List Int) : nrm (nrm f l).1 ((nrm f l).2 ++ m) = nrm f (l ++ m) := by
  have H := nrm_of hf l
  refine nrm_same H.v hf fun d => ?_
  rw [has_app, has_app, H.is]
theorem nrm_self {f c : List Int} (hf : VOk f) (h : Nf f c) : nrm f c = (f, c) := by
  have := nrm_eq hf hf h fun d => Iff.rfl
  exact (Prod.ext this.1 this.2).symm
theorem nf_iff {f c : List Int} (hf : VOk f) : Nf f c ↔ f = (nrm f c).1 ∧ c = (nrm f c).2 := by
  constructor
  · intro h; rw [nrm_self hf h]; exact ⟨rfl, rfl⟩
  · rintro ⟨h1, h2⟩
    have := (nrm_of hf c).nf
    rw [← h1, ← h2] at this; exact this
theorem und_vj {f g : List Int} (hf : VOk f) (hg : VOk g) {d : Int} (hd : may d = true) : und (vj f g) d = true ↔ und f d = true ∨ und g d = true := by
  have := may_iff.1 hd
  rw [und_iff, und_iff, und_iff, vj_at hf.len hg.len _ (by omega), mx_ge]
theorem has_join {f g : List Int} (hf : VOk f) (hg : VOk g) (c e : List Int) (d : Int) : has (vj f g) (c ++ e) d = true ↔ has f c d = true ∨ has g e d = true := by
  rw [hasd_iff, hasd_iff, hasd_iff, List.mem_append]
  constructor
  · rintro ⟨h, a | a | a⟩
    · rcases (und_vj hf hg h).1 a with b | b
      · exact .inl ⟨h, .inl b⟩
      · exact .inr ⟨h, .inl b⟩
    · exact .inl ⟨h, .inr a⟩
    · exact .inr ⟨h, .inr a⟩
  · rintro (⟨h, a | a⟩ | ⟨h, a | a⟩)
    · exact ⟨h, .inl ((und_vj hf hg h).2 (.inl a))⟩
    · exact ⟨h, .inr (.inl a)⟩
    · exact ⟨h, .inl ((und_vj hf hg h).2 (.inr a))⟩
    · exact ⟨h, .inr (.inr a)⟩
theorem und_vz {d : Int} (h : may d = true) : und vz d = false := by
  have := may_iff.1 h
  rw [und_not, vz_at _ (by omega)]; omega
theorem has_vz {l : List Int} {d : Int} : has vz l d = true ↔ may d = true ∧ d ∈ l := by
  rw [hasd_iff]
  constructor
  · rintro ⟨h, a | a⟩
    · rw [und_vz h] at a; exact absurd a (by simp)
    · exact ⟨h, a⟩
  · rintro ⟨h, a⟩; exact ⟨h, .inr a⟩
def gt0 (q : List Int) (i : Nat) : Int := q.getD i 0
def swp (q : List Int) (i j : Nat) : List Int := (q.set i (q.getD j 0)).set j (q.getD i 0)
theorem swp_len (q : List Int) (i j : Nat) : (swp q i j).length = q.length := by simp [swp]
theorem swp_at (q : List Int) (i j k : Nat) (hi : i < q.length) (hj : j < q.length) :
    (swp q i j).getD k 0 = if k = j then q.getD i 0 else if k = i then q.getD j 0 else q.getD k 0 := by
  unfold swp
  rw [getD_set _ _ _ _ (by rw [List.length_set]; exact hj), getD_set _ _ _ _ hi]
  by_cases h1 : k = j
  · subst h1; simp
  · rw [if_neg (Ne.symm h1), if_neg h1]
    by_cases h2 : k = i
    · subst h2; simp
    · rw [if_neg (Ne.symm h2), if_neg h2]
theorem swp_perm (q : List Int) (i j : Nat) (hi : i < q.length) (hj : j < q.length) : (swp q i j).Perm q := by
  unfold swp
  rw [getD_at hi, getD_at hj]
  exact List.set_set_perm hi hj
/-- A heap up to n, the least on top. -/
def Hp (q : List Int) : Prop := ∀ i, 0 < i → i < q.length → q.getD ((i - 1) / 2) 0 ≤ q.getD i 0
theorem Hp.nil : Hp [] := fun i _ h => absurd h (by simp)
theorem Hp.least {q : List Int} (h : Hp q) : ∀ (n i : Nat), i ≤ n → i < q.length → q.getD 0 0 ≤ q.getD i 0 := by
  intro n
  induction n with
  | zero => intro i h1 h2; have : i = 0 := by omega
            subst this; omega
  | succ n ih =>
    intro i h1 h2
    by_cases h0 : i = 0
    · subst h0; omega
    · have a := h i (by omega) h2
      have b := ih ((i - 1) / 2) (by omega) (by omega)
      omega
theorem Hp.top {q : List Int} (h : Hp q) (d : Int) (hd : d ∈ q) : q.getD 0 0 ≤ d := by
  obtain ⟨i, hi, rfl⟩ := List.mem_iff_getElem.1 hd
  rw [← getD_at hi]; exact h.least i i (Nat.le_refl _) hi
/-- A heap but at j, which may be too small: as it rises. -/
structure Up (q : List Int) (j : Nat) : Prop where
  lt : j < q.length
  a : ∀ i, 0 < i → i < q.length → i ≠ j → q.getD ((i - 1) / 2) 0 ≤ q.getD i 0
  b : ∀ i, 0 < i → i < q.length → (i - 1) / 2 = j → 0 < j → q.getD ((j - 1) / 2) 0 ≤ q.getD i 0
theorem Up.start {q : List Int} (h : Hp q) (x : Int) : Up (q ++ [x]) q.length := by
  have g : ∀ i, i < q.length → (q ++ [x]).getD i 0 = q.getD i 0 := fun i hi => by
    rw [getD_at (by simp; omega), getD_at hi, List.getElem_append_left hi]
  refine ⟨by simp, fun i h0 h1 h2 => ?_, fun i h0 h1 h2 => ?_⟩
  · rw [List.length_append, List.length_singleton] at h1
    rw [g i (by omega), g _ (by omega)]; exact h i h0 (by omega)
  · rw [List.length_append, List.length_singleton] at h1
    omega
theorem Up.done {q : List Int} {j : Nat} (h : Up q j) (hj : j = 0 ∨ q.getD ((j - 1) / 2) 0 ≤ q.getD j 0) : Hp q := by
  intro i h0 h1
  by_cases e : i = j
  · subst e; rcases hj with e | e
    · omega
    · exact e
  · exact h.a i h0 h1 e
theorem Up.step {q : List Int} {j : Nat} (h : Up q j) (hj : 0 < j) (hl : q.getD j 0 ≤ q.getD ((j - 1) / 2) 0) : Up (swp q ((j - 1) / 2) j) ((j - 1) / 2) := by
  have hlt := h.lt
  have S := fun k => swp_at q ((j - 1) / 2) j k (by omega) h.lt
  refine ⟨by rw [swp_len]; omega, fun i h0 h1 h2 => ?_, fun i h0 h1 h2 h3 => ?_⟩
  · rw [swp_len] at h1
    rw [S, S]
    by_cases e : i = j
    · subst e; rw [if_neg (by omega), if_pos rfl, if_pos rfl]; exact hl
    · rw [if_neg e, if_neg h2]
      by_cases e1 : (i - 1) / 2 = j
      · rw [if_pos e1]; exact h.b i h0 h1 e1 hj
      · rw [if_neg e1]
        by_cases e2 : (i - 1) / 2 = (j - 1) / 2
        · rw [if_pos e2]
          have := h.a i h0 h1 e
          rw [e2] at this; omega
        · rw [if_neg e2]; exact h.a i h0 h1 e
  · rw [swp_len] at h1
    rw [S, S]
    rw [if_neg (by omega), if_neg (by omega)]
    have a := h.a ((j - 1) / 2) h3 (by omega) (by omega)
    by_cases e : i = j
    · subst e; rw [if_pos rfl]; exact a
    · rw [if_neg e, if_neg (by omega)]
      have := h.a i h0 h1 e
      rw [h2] at this; omega
/-- A heap up to n but at i, which may be too great: as it sinks. -/
structure Down (q : List Int) (i n : Nat) : Prop where
  le : n ≤ q.length
  a : ∀ k, 0 < k → k < n → (k - 1) / 2 ≠ i → q.getD ((k - 1) / 2) 0 ≤ q.getD k 0
  b : ∀ k, 0 < k → k < n → (k - 1) / 2 = i → 0 < i → q.getD ((i - 1) / 2) 0 ≤ q.getD k 0
/-- It is a heap up to n. -/
def HpTo (q : List Int) (n : Nat) : Prop := ∀ i, 0 < i → i < n → q.getD ((i - 1) / 2) 0 ≤ q.getD i 0
theorem Down.done {q : List Int} {i n : Nat} (h : Down q i n) (h1 : 2 * i + 1 < n → q.getD i 0 ≤ q.getD (2 * i + 1) 0) (h2 : 2 * i + 2 < n → q.getD i 0 ≤ q.getD (2 * i + 2) 0) : HpTo q n := by
  intro k h0 hk
  by_cases e : (k - 1) / 2 = i
  · have : k = 2 * i + 1 ∨ k = 2 * i + 2 := by omega
    rcases this with e1 | e1
    · subst e1; rw [e]; exact h1 hk
    · subst e1; rw [e]; exact h2 hk
  · exact h.a k h0 hk e
theorem Down.step {q : List Int} {i j n : Nat} (h : Down q i n) (hj : j = 2 * i + 1 ∨ j = 2 * i + 2) (hn : j < n) (hl : q.getD j 0 ≤ q.getD i 0)
    (h1 : 2 * i + 1 < n → q.getD j 0 ≤ q.getD (2 * i + 1) 0) (h2 : 2 * i + 2 < n → q.getD j 0 ≤ q.getD (2 * i + 2) 0) : Down (swp q i j) j n := by
  have hle := h.le
  have S := fun k => swp_at q i j k (by omega) (by omega)
  refine ⟨by rw [swp_len]; exact hle, fun k h0 hk hne => ?_, fun k h0 hk he _ => ?_⟩
  · rw [S, S, if_neg hne]
    by_cases e1 : (k - 1) / 2 = i
    · rw [if_pos e1]
      have : k = 2 * i + 1 ∨ k = 2 * i + 2 := by omega
      by_cases e2 : k = j
      · rw [if_pos e2]; exact hl
      · rw [if_neg e2, if_neg (by omega)]
        rcases this with e3 | e3
        · subst e3; exact h1 hk
        · subst e3; exact h2 hk
    · rw [if_neg e1]
      by_cases e2 : k = j
      · omega
      · rw [if_neg e2]
        by_cases e3 : k = i
        · subst e3; rw [if_pos rfl]
          exact h.b j (by omega) hn (by omega) h0
        · rw [if_neg e3]; exact h.a k h0 hk e1
  · rw [S, S]
    have ej : (j - 1) / 2 = i := by omega
    rw [ej, if_neg (by omega), if_pos rfl, if_neg (by omega), if_neg (by omega)]
    have := h.a k h0 hk (by omega)
    rw [he] at this; exact this
theorem Down.start {q : List Int} {n : Nat} (h : Hp q) (hn : q.length = n + 1) : Down (swp q 0 n) 0 n := by
  have S := fun k => swp_at q 0 n k (by omega) (by omega)
  refine ⟨by rw [swp_len]; omega, fun k h0 hk he => ?_, fun k _ _ _ h0 => absurd h0 (by omega)⟩
  rw [S, S, if_neg (by omega), if_neg (by omega), if_neg (by omega), if_neg (by omega)]
  exact h k h0 (by omega)
theorem swp_last {q : List Int} {n : Nat} (hn : q.length = n + 1) : (swp q 0 n).getD n 0 = q.getD 0 0 := by
  rw [swp_at q 0 n n (by omega) (by omega), if_pos rfl]
/-- What is left when the least is taken. -/
theorem take_out {q r : List Int} {n : Nat} {m : Int} (hn : q.length = n + 1) (hp : r.Perm q) (hr : HpTo r n) (hm : r.getD n 0 = m) : q.Perm (m :: r.take n) ∧ Hp (r.take n) := by
  have hl : r.length = n + 1 := by rw [hp.length_eq, hn]
  refine ⟨?_, fun i h0 h1 => ?_⟩
  · have e : r = r.take n ++ [m] := by
      conv => lhs; rw [← List.take_append_drop n r]
      congr 1
      rw [← hm, getD_at (by omega), List.drop_eq_getElem_cons (by omega), List.drop_of_length_le (by omega)]
    refine hp.symm.trans ?_
    conv => lhs; rw [e]
    exact List.perm_append_singleton _ _
  · have g : ∀ k, k < n → (r.take n).getD k 0 = r.getD k 0 := fun k hk => by
      rw [getD_at (by rw [List.length_take]; omega), getD_at (by omega), List.getElem_take]
    rw [List.length_take] at h1
    rw [g _ (by omega), g _ (by omega)]
    exact hr i h0 (by omega)
/-- One step of the reference's put: whether the dot stands, and what is copied so far. -/
def pstep (d : Int) (s : Bool × List Int) (x : Int) : Bool × List Int := if (!s.1 && decide (d < x)) = true then (true, s.2 ++ [d] ++ [x]) else (s.1, s.2 ++ [x])
def psts (d : Int) (c : List Int) : Bool × List Int := c.foldl (pstep d) (false, [])
def insd (d : Int) (c : List Int) : List Int := if (psts d c).1 = true then (psts d c).2 else (psts d c).2 ++ [d]
theorem psts_snoc (d : Int) (c : List Int) (x : Int) : psts d (c ++ [x]) = pstep d (psts d c) x := List.foldl_append ..
structure PInv (d : Int) (p : List Int) (s : Bool × List Int) : Prop where
  no : s.1 = false → s.2 = p ∧ ∀ x ∈ p, x < d
  yes : s.1 = true → s.2.Pairwise (· < ·) ∧ (∀ x, x ∈ s.2 ↔ x = d ∨ x ∈ p) ∧ ∃ x ∈ p, d < x
  len : s.2.length ≤ p.length + 1
theorem pinv (d : Int) : ∀ (k : Nat) (c : List Int), c.length = k → c.Pairwise (· < ·) → d ∉ c → PInv d c (psts d c) := by
  intro k
  induction k with
  | zero => intro c hc _ _; rw [List.length_eq_zero_iff] at hc; subst hc; exact ⟨fun _ => ⟨rfl, by simp⟩, fun h => absurd h (by simp [psts]), by simp [psts]⟩
  | succ k ih =>
    intro c hc hs hd
    obtain ⟨p, x, rfl⟩ : ∃ p x, c = p ++ [x] := ⟨c.dropLast, c.getLast (by intro e; subst e; simp at hc), (List.dropLast_concat_getLast _).symm⟩
    rw [List.pairwise_append] at hs
    have hpx : ∀ a ∈ p, a < x := fun a ha => hs.2.2 a ha x (by simp)
    have hdp : d ∉ p := fun h => hd (by simp [h])
    have hdx : d ≠ x := fun h => hd (by simp [h])
    have I := ih p (by simpa using hc) hs.1 hdp
    rw [psts_snoc]
    have hl := I.len
    unfold pstep
    cases hb : (psts d p).1 with
    | false =>
      obtain ⟨e, hlt⟩ := I.no hb
      by_cases h1 : d < x
      · rw [if_pos (by simp [h1])]
        refine ⟨fun h => absurd h (by simp), fun _ => ⟨?_, fun y => ?_, x, by simp, h1⟩, by simp [e]⟩
        · show (((psts d p).2 ++ [d]) ++ [x]).Pairwise (· < ·)
          rw [e, List.append_assoc, List.pairwise_append]
          refine ⟨hs.1, by simp [h1], fun a ha b hb => ?_⟩
          simp at hb
          rcases hb with e1 | e1
          · subst e1; exact hlt a ha
          · subst e1; exact hpx a ha
        · show y ∈ (((psts d p).2 ++ [d]) ++ [x]) ↔ _
          rw [e]; simp only [List.mem_append, List.mem_singleton]
          constructor
          · rintro ((h | h) | h)
            · exact .inr (.inl h)
            · exact .inl h
            · exact .inr (.inr h)
          · rintro (h | h | h)
            · exact .inl (.inr h)
            · exact .inl (.inl h)
            · exact .inr h
      · rw [if_neg (by simp [h1])]
        refine ⟨fun _ => ⟨by rw [e], fun y hy => ?_⟩, fun h => absurd h (by simp), by simp [e]⟩
        rw [List.mem_append, List.mem_singleton] at hy
        rcases hy with h | h
        · exact hlt y h
        · subst h; omega
    | true =>
      obtain ⟨e1, e2, y, hy, hdy⟩ := I.yes hb
      have hyx := hpx y hy
      rw [if_neg (by simp)]
      refine ⟨fun h => absurd h (by simp), fun _ => ⟨?_, fun z => ?_, y, by simp [hy], hdy⟩, by simp; omega⟩
      · show ((psts d p).2 ++ [x]).Pairwise (· < ·)
        rw [List.pairwise_append]
        refine ⟨e1, by simp, fun a ha b hb => ?_⟩
        simp at hb; subst hb
        rcases (e2 a).1 ha with h | h
        · subst h; omega
        · exact hpx a h
      · show z ∈ ((psts d p).2 ++ [x]) ↔ _
        rw [List.mem_append, List.mem_append, e2, or_assoc]
theorem insd_is {d : Int} {c : List Int} (hs : c.Pairwise (· < ·)) (hd : d ∉ c) : (insd d c).Pairwise (· < ·) ∧ (∀ x, x ∈ insd d c ↔ x = d ∨ x ∈ c) := by
  have I := pinv d c.length c rfl hs hd
  unfold insd
  cases hb : (psts d c).1 with
  | true => rw [if_pos rfl]; exact ⟨(I.yes hb).1, (I.yes hb).2.1⟩
  | false =>
    rw [if_neg (by simp)]
    obtain ⟨e, h⟩ := I.no hb
    rw [e]
    refine ⟨?_, fun x => by rw [List.mem_append, List.mem_singleton, or_comm]⟩
    rw [List.pairwise_append]
    exact ⟨hs, by simp, fun a ha b hb => by simp at hb; subst hb; exact h a ha⟩
theorem psts_len (d : Int) : ∀ (k : Nat) (c : List Int), c.length = k → (psts d c).2.length ≤ c.length + 1 ∧ ((psts d c).1 = false → (psts d c).2.length ≤ c.length) := by
  intro k
  induction k with
  | zero => intro c hc; rw [List.length_eq_zero_iff] at hc; subst hc; simp [psts]
  | succ k ih =>
    intro c hc
    obtain ⟨p, x, rfl⟩ : ∃ p x, c = p ++ [x] := ⟨c.dropLast, c.getLast (by intro e; subst e; simp at hc), (List.dropLast_concat_getLast _).symm⟩
    have I := ih p (by simpa using hc)
    rw [psts_snoc]; unfold pstep
    split
    · rename_i h
      simp only [Bool.and_eq_true, Bool.not_eq_true', decide_eq_true_eq] at h
      have := I.2 h.1
      simp; omega
    · constructor
      · simp; omega
      · intro h; have := I.2 h; simp; omega
/-- The reference's put. -/
def putd (f c : List Int) (d : Int) : List Int := if (!may d || has f c d) = true then c else insd d c
def puts (f : List Int) (l : List Int) (c : List Int) : List Int := l.foldl (putd f) c
theorem puts_snoc (f l c : List Int) (d : Int) : puts f (l ++ [d]) c = putd f (puts f l c) d := List.foldl_append ..
theorem puts_app (f l m c : List Int) : puts f (l ++ m) c = puts f m (puts f l c) := List.foldl_append ..
theorem putd_inv {f l c : List Int} {d : Int} (h : Waits f l c) (hs : c.Pairwise (· < ·)) : Waits f (l ++ [d]) (putd f c d) ∧ (putd f c d).Pairwise (· < ·) := by
  unfold putd
  cases h1 : may d with
  | false => rw [if_pos (by simp)]; exact ⟨h.skip (.inr (.inl h1)), hs⟩
  | true =>
    cases h2 : has f c d with
    | true =>
      rw [if_pos (by simp)]
      rcases (hasd_iff.1 h2).2 with e | e
      · exact ⟨h.skip (.inr (.inr e)), hs⟩
      · exact ⟨h.skip (.inl e), hs⟩
    | false =>
      rw [if_neg (by simp)]
      have hc : d ∉ c := fun e => by rw [hasd_iff.2 ⟨h1, .inr e⟩] at h2; exact absurd h2 (by simp)
      have hu : und f d = false := by
        cases hu : und f d with
        | false => rfl
        | true => rw [hasd_iff.2 ⟨h1, .inl hu⟩] at h2; exact absurd h2 (by simp)
      have I := insd_is hs hc
      refine ⟨h.push hc h1 hu ?_, I.1⟩
      have nd : ∀ {a : List Int}, a.Pairwise (· < ·) → a.Nodup := fun ha => ha.imp (fun h => by omega)
      rw [List.perm_ext_iff_of_nodup (nd I.1) (List.nodup_cons.2 ⟨hc, nd hs⟩)]
      intro a; rw [I.2, List.mem_cons]
theorem puts_inv {f : List Int} : ∀ (r l c : List Int), Waits f l c → c.Pairwise (· < ·) → Waits f (l ++ r) (puts f r c) ∧ (puts f r c).Pairwise (· < ·)
  | [], l, c, h, hs => by simpa [puts] using And.intro h hs
  | d :: r, l, c, h, hs => by
    have I := putd_inv (d := d) h hs
    have := puts_inv r (l ++ [d]) _ I.1 I.2
    have e : l ++ d :: r = (l ++ [d]) ++ r := by simp
    rw [e]; exact this
theorem putd_len (f c : List Int) (d : Int) : (putd f c d).length ≤ c.length + 1 := by
  unfold putd insd
  have := psts_len d c.length c rfl
  split
  · omega
  · split
    · omega
    · rename_i h
      have := this.2 (by simpa using h)
      simp; omega
theorem puts_len (f : List Int) : ∀ (l c : List Int), (puts f l c).length ≤ c.length + l.length
  | [], c => by simp [puts]
  | d :: l, c => by
    have a := puts_len f l (putd f c d)
    have b := putd_len f c d
    have : puts f (d :: l) c = puts f l (putd f c d) := rfl
    rw [this, List.length_cons]; omega
/-- What a round of the reference's settle begins with. -/
structure Rnd (f0 l0 f c : List Int) : Prop where
  inv : Inv (fun d => has f0 l0 d = true) (f0.sum + l0.length) f [] c
  srt : c.Pairwise (· < ·)
theorem Waits.rnd {f l c : List Int} (hf : VOk f) (h : Waits f l c) (hs : c.Pairwise (· < ·)) : Rnd f l f c := ⟨h.inv hf, hs⟩
theorem Inv.again {f0 l0 f c : List Int} (h : Inv (fun d => has f0 l0 d = true) (f0.sum + l0.length) f c []) : Rnd f0 l0 f c := by
  refine ⟨⟨h.v, Nf.nil f, fun e he => absurd he (by simp), fun d hd => ⟨(h.nf.ok d hd).1, ?_⟩, h.nf.srt.imp (fun h => by omega), fun d => ?_, by have := h.cnt; simp only [List.length_nil] at *; omega⟩, h.nf.srt⟩
  · have := (h.nf.ok d hd).2; rw [und_not]; omega
  · rw [h.is d, hasd_iff, hasd_iff]
    constructor
    · rintro (⟨a, b | b⟩ | a)
      · exact .inl ⟨a, .inl b⟩
      · exact .inr b
      · exact absurd a (by simp)
    · rintro (⟨a, b | b⟩ | a)
      · exact .inl ⟨a, .inl b⟩
      · exact absurd b (by simp)
      · exact .inl ⟨(h.nf.ok d a).1, .inr a⟩
/-- In a sorted row the next is the least. -/
theorem srt_next {c : List Int} {i : Nat} (h : c.Pairwise (· < ·)) (hi : i < c.length) : (c.drop i).Perm (c.getD i 0 :: c.drop (i + 1)) ∧ ∀ d ∈ c.drop i, c.getD i 0 ≤ d := by
  rw [getD_at hi, List.drop_eq_getElem_cons hi]
  refine ⟨List.Perm.refl _, fun d hd => ?_⟩
  rcases List.mem_cons.1 hd with e | e
  · omega
  · have := List.Pairwise.drop (i := i) h
    rw [List.drop_eq_getElem_cons hi, List.pairwise_cons] at this
    have := this.1 d e; omega
/-- The middle of a round: what is behind i waits still. -/
structure Mid (f0 l0 c : List Int) (i : Nat) (f o : List Int) : Prop where
  inv : Inv (fun d => has f0 l0 d = true) (f0.sum + l0.length) f o (c.drop i)
  len : o.length ≤ i
theorem Rnd.mid {f0 l0 f c : List Int} (h : Rnd f0 l0 f c) : Mid f0 l0 c 0 f [] := ⟨by simpa using h.inv, by simp⟩
theorem Mid.at {f0 l0 c f o : List Int} {i : Nat} (h : Mid f0 l0 c i f o) (hi : i < c.length) : may (c.getD i 0) = true ∧ und f (c.getD i 0) = false :=
  h.inv.ok _ (by rw [getD_at hi, List.drop_eq_getElem_cons hi]; exact List.mem_cons_self)
theorem Mid.join {f0 l0 c f o : List Int} {i : Nat} (h : Mid f0 l0 c i f o) (hs : c.Pairwise (· < ·)) (hi : i < c.length) (hn : near f (c.getD i 0) = true) :
    Mid f0 l0 c (i + 1) (f.set (c.getD i 0 / 4294967296).toNat (c.getD i 0 % 4294967296)) o :=
  ⟨h.inv.join (srt_next hs hi).1 (srt_next hs hi).2 hn, by have := h.len; omega⟩
theorem Mid.far {f0 l0 c f o : List Int} {i : Nat} (h : Mid f0 l0 c i f o) (hs : c.Pairwise (· < ·)) (hi : i < c.length) (hn : near f (c.getD i 0) = false) :
    Mid f0 l0 c (i + 1) f (o ++ [c.getD i 0]) :=
  ⟨h.inv.far (srt_next hs hi).1 (srt_next hs hi).2 hn, by have := h.len; rw [List.length_append, List.length_singleton]; omega⟩
theorem Mid.done {f0 l0 c f o : List Int} {i : Nat} (h : Mid f0 l0 c i f o) (hi : c.length ≤ i) : Inv (fun d => has f0 l0 d = true) (f0.sum + l0.length) f o [] := by
  have := h.inv
  rwa [List.drop_of_length_le hi] at this
theorem Inv.is_nrm {f0 l0 f o : List Int} (hf : VOk f0) (h : Inv (fun d => has f0 l0 d = true) (f0.sum + l0.length) f o []) : f = (nrm f0 l0).1 ∧ o = (nrm f0 l0).2 :=
  nrm_eq hf h.v h.nf fun d => by rw [h.is d]; simp
/-- Is a set in normal form, as the program asks? -/
def rightD (f c : List Int) (i : Nat) : Bool := may (c.getD i 0) && (!near f (c.getD i 0) && (decide (i = 0) || decide (c.getD (i - 1) 0 < c.getD i 0)))
def rightsD (f c : List Int) (n : Nat) : Bool := (List.range n).all (rightD f c)
theorem srt_iff {c : List Int} : c.Pairwise (· < ·) ↔ ∀ i, 0 < i → i < c.length → c.getD (i - 1) 0 < c.getD i 0 := by
  constructor
  · intro h i h0 hi
    rw [getD_at hi, getD_at (by omega)]
    exact List.pairwise_iff_getElem.1 h _ _ (by omega) hi (by omega)
  · intro h
    rw [List.pairwise_iff_getElem]
    intro i j hi hj hij
    have : ∀ n j, j ≤ n → i < j → (hj : j < c.length) → c[i] < c[j] := by
      intro n
      induction n with
      | zero => intro j h1 h2; omega
      | succ n ih =>
        intro j h1 h2 hj
        have a := h j (by omega) hj
        rw [getD_at hj, getD_at (by omega)] at a
        by_cases e : i = j - 1
        · subst e; exact a
        · have := ih (j - 1) (by omega) (by omega) (by omega); omega
    exact this j j (Nat.le_refl _) hij hj
theorem near_not {f : List Int} {d : Int} : near f d = false ↔ f.getD (d / 4294967296).toNat 0 + 2 ≤ d % 4294967296 := by
  unfold near und
  rw [Bool.or_eq_false_iff, decide_eq_false_iff_not, decide_eq_false_iff_not]; omega
theorem rights_iff {f c : List Int} : rightsD f c c.length = true ↔ Nf f c := by
  unfold rightsD
  rw [List.all_eq_true]
  constructor
  · intro h
    have H : ∀ i, i < c.length → rightD f c i = true := fun i hi => h i (List.mem_range.2 hi)
    refine ⟨srt_iff.2 fun i h0 hi => ?_, fun d hd => ?_⟩
    · have := H i hi
      simp only [rightD, Bool.and_eq_true, Bool.or_eq_true, decide_eq_true_eq] at this
      omega
    · obtain ⟨i, hi, rfl⟩ := List.mem_iff_getElem.1 hd
      have := H i hi
      rw [rightD, getD_at hi] at this
      simp only [Bool.and_eq_true, Bool.not_eq_true'] at this
      exact ⟨this.1, near_not.1 this.2.1⟩
  · intro h i hi
    have hi := List.mem_range.1 hi
    have a := h.ok (c.getD i 0) (by rw [getD_at hi]; exact List.getElem_mem hi)
    unfold rightD
    rw [a.1, near_not.2 a.2]
    by_cases h0 : i = 0
    · simp [h0]
    · rw [decide_eq_true (srt_iff.1 h.srt i (by omega) hi)]; simp
theorem rights_nrm {f c : List Int} (hf : VOk f) : rightsD f c c.length = decide (f = (nrm f c).1 ∧ c = (nrm f c).2) := by
  rw [Bool.eq_iff_iff, rights_iff, nf_iff hf, decide_eq_true_eq]
/-- The dots of a's cloud that b lacks. -/
noncomputable def lessD (f c g e : List Int) : List Int := (nrm f c).2.filter fun d => !has g e d
theorem nrm_may {f c : List Int} (hf : VOk f) {d : Int} (h : d ∈ (nrm f c).2) : may d = true := ((nrm_of hf c).nf.ok d h).1
/-- The number of dots of a set in normal form. -/
def cntD (p : List Int × List Int) : Int := p.1.sum + p.2.length
theorem sameD {f c g e : List Int} : (nrm f c = nrm g e) ↔ (nrm f c).1 = (nrm g e).1 ∧ (nrm f c).2 = (nrm g e).2 := by
  constructor
  · intro h; rw [h]; exact ⟨rfl, rfl⟩
  · rintro ⟨a, b⟩; exact Prod.ext a b
theorem nrm_join {f g : List Int} (hf : VOk f) (hg : VOk g) (hj : VOk (vj f g)) (c e : List Int) (hj2 : VOk (vj (nrm f c).1 (nrm g e).1)) : nrm (vj (nrm f c).1 (nrm g e).1) ((nrm f c).2 ++ (nrm g e).2) = nrm (vj f g) (c ++ e) := by
  have H := nrm_of hf c
  have G := nrm_of hg e
  refine nrm_same hj2 hj fun d => ?_
  rw [has_join H.v G.v, has_join hf hg, H.is, G.is]
theorem cnt_of {f : List Int} (hf : VOk f) (l : List Int) : cntD (nrm f l) ≤ f.sum + l.length := (nrm_of hf l).cnt
end Go.Proofs.YtpgafijeecmgmaaGreat
namespace Go.Proofs.YtpgafijeecmgmaaGreat

/-- The dots of the tags of a row of atoms. -/
def tg (s : List Am) : List Int := (s.filter fun x => x.k.s == 1).map fun x => x.k.w2
theorem tg_yes {s : List Am} {x : Am} (h : (x.k.s == 1) = true) : tg (s ++ [x]) = tg s ++ [x.k.w2] := by
  have e : [x].filter (fun x => x.k.s == 1) = [x] := by rw [List.filter_cons]; simp only [h]; rfl
  unfold tg; rw [List.filter_append, List.map_append, e]; rfl
theorem tg_no {s : List Am} {x : Am} (h : (x.k.s == 1) = false) : tg (s ++ [x]) = tg s := by
  have e : [x].filter (fun x => x.k.s == 1) = [] := by rw [List.filter_cons]; simp only [h]; rfl
  unfold tg; rw [List.filter_append, List.map_append, e]; simp
theorem tg_len (s : List Am) : (tg s).length ≤ s.length := by unfold tg; rw [List.length_map]; exact List.length_filter_le ..
theorem tg_mem {s : List Am} {d : Int} : d ∈ tg s ↔ ∃ k, keyIn s k ∧ k.s = 1 ∧ k.w2 = d := by
  unfold tg keyIn
  simp only [List.mem_map, List.mem_filter, beq_iff_eq]
  constructor
  · rintro ⟨x, ⟨hx, h1⟩, rfl⟩; exact ⟨x.k, ⟨x, hx, rfl⟩, h1, rfl⟩
  · rintro ⟨k, ⟨x, hx, rfl⟩, h1, rfl⟩; exact ⟨x, ⟨hx, h1⟩, rfl⟩
theorem tg_nums {s : List Am} (h : OkR s) : ∀ d ∈ tg s, 0 ≤ d ∧ d < 18446744073709551616 := by
  intro d hd
  unfold tg at hd
  simp only [List.mem_map, List.mem_filter] at hd
  obtain ⟨x, ⟨hx, _⟩, rfl⟩ := hd
  have := (h x hx).k.w2r
  omega
theorem vj_zz : vj vz vz = vz := by decide
theorem nrm_two (l m : List Int) : nrm (vj (nrm vz l).1 (nrm vz m).1) ((nrm vz l).2 ++ (nrm vz m).2) = nrm vz (l ++ m) := by
  have := nrm_join vz_ok vz_ok (vj_ok vz_ok vz_ok) l m (vj_ok (nrm_of vz_ok l).v (nrm_of vz_ok m).v)
  rw [vj_zz] at this; exact this
theorem seen_join {a b : List Am} (ha : OkR a) (hb : OkR b) : nrm vz (tg (norm (a ++ b))) = nrm vz (tg (norm a) ++ tg (norm b)) := by
  refine nrm_same vz_ok vz_ok fun d => ?_
  rw [has_vz, has_vz, List.mem_append, tg_mem, tg_mem, tg_mem]
  refine and_congr_right fun _ => ?_
  have e : norm (a ++ b) = join a b := rfl
  constructor
  · rintro ⟨k, hk, h1⟩
    rw [e] at hk
    rcases (keyIn_join ha hb k).1 hk with h2 | h2
    · exact .inl ⟨k, h2, h1⟩
    · exact .inr ⟨k, h2, h1⟩
  · rintro (⟨k, hk, h1⟩ | ⟨k, hk, h1⟩)
    · exact ⟨k, by rw [e]; exact (keyIn_join ha hb k).2 (.inl hk), h1⟩
    · exact ⟨k, by rw [e]; exact (keyIn_join ha hb k).2 (.inr hk), h1⟩
end Go.Proofs.YtpgafijeecmgmaaGreat
