/- The reads of a key one behind the other, each behind the error of those ahead of it, come to what a key's read is. -/
import Derived.Test.YteggjihhjdeieaaSmallK
namespace Go.Proofs.Yteggjihhjdeieaa
open M

/-- An error and what can still be read, behind a check. -/
def fs (b : Bool) (x : Int) (p : Int × List Int) : Int × List Int := if b = true then p else (kept p.1 x, [])
theorem fs_true (x : Int) (p : Int × List Int) : fs true x p = p := rfl
theorem fs_bad {b : Bool} {x e : Int} (he : e ≠ 0) : fs b x (e, []) = (e, []) := by
  unfold fs; split
  · rfl
  · simp only [kept]; rw [if_neg he]
theorem fs_false (x : Int) (l : List Int) : fs false x (0, l) = (x, []) := rfl
def s1 (l : List Int) : Got Int := gate 0 (rByte l)
def p1 (l : List Int) : Int × List Int := fs (sortB ((s1 l).val 0)) 3 ((s1 l).err, (s1 l).rst)
def s2 (l : List Int) : Got Int := gate (p1 l).1 (rNum 65535 (p1 l).2)
def s3 (l : List Int) : Got (List Int) := gate (s2 l).err (rName (s2 l).rst)
def p3 (l : List Int) : Int × List Int := fs ((s3 l).val zero8 != zero8) 3 ((s3 l).err, (s3 l).rst)
def s4 (l : List Int) : Got Int := gate (p3 l).1 (rByte (p3 l).2)
def p4 (l : List Int) : Int × List Int := fs (decide ((s4 l).val 0 < 16)) 2 ((s4 l).err, (s4 l).rst)
def s5 (l : List Int) : Got Int := gate (p4 l).1 (rNum 4294967295 (p4 l).2)
def p5 (l : List Int) : Int × List Int := fs (decide (0 < (s5 l).val 0)) 3 ((s5 l).err, (s5 l).rst)
theorem d5 {l : List Int} {e : Int} (he : e ≠ 0) (h : p4 l = (e, [])) : p5 l = (e, []) := by
  have h5 : s5 l = .bad e := by unfold s5; rw [h]; exact gate_bad he _
  unfold p5; rw [h5]; exact fs_bad he
theorem d4 {l : List Int} {e : Int} (he : e ≠ 0) (h : p3 l = (e, [])) : p4 l = (e, []) := by
  have h5 : s4 l = .bad e := by unfold s4; rw [h]; exact gate_bad he _
  unfold p4; rw [h5]; exact fs_bad he
theorem d3 {l : List Int} {e : Int} (he : e ≠ 0) (h : s2 l = .bad e) : p3 l = (e, []) := by
  have h5 : s3 l = .bad e := by unfold s3; rw [h]; exact gate_bad he _
  unfold p3; rw [h5]; exact fs_bad he
theorem d2 {l : List Int} {e : Int} (he : e ≠ 0) (h : p1 l = (e, [])) : s2 l = .bad e := by unfold s2; rw [h]; exact gate_bad he _
/-- What the reads come to: of a note, of a tag, of the others. -/
structure Fin (l : List Int) (p : Int × List Int) (k : Ky) : Prop where
  err : p.1 = (rKey l).err
  rst : p.2 = (rKey l).rst
  val : p.1 = 0 → k = (rKey l).val kzero
theorem fin_bad {l : List Int} {p : Int × List Int} {k : Ky} {e : Int} (he : e ≠ 0) (hp : p = (e, [])) (hk : rKey l = .bad e) : Fin l p k := by
  subst hp
  exact ⟨by rw [hk]; rfl, by rw [hk]; rfl, fun h => absurd h he⟩
theorem fin_got {l rest : List Int} {p : Int × List Int} {k k' : Ky} (hp : p = (0, rest)) (hk : rKey l = .got k' rest) (he : k = k') : Fin l p k := by
  subst hp
  exact ⟨by rw [hk]; rfl, by rw [hk]; rfl, fun _ => by rw [hk]; exact he⟩
/-- What comes of the sort. -/
theorem first (l : List Int) : (∃ e, e ≠ 0 ∧ p1 l = (e, []) ∧ rKey l = .bad e ∧ (s1 l).val 0 ≠ 4) ∨
    ∃ s l1, rByte l = .got s l1 ∧ (s1 l).val 0 = s ∧ 1 ≤ s ∧ s ≤ 4 ∧ p1 l = (0, l1) := by
  cases h : rByte l with
  | bad e =>
    have h1 : s1 l = .bad e := by unfold s1; rw [h]; rfl
    have he : e = 4 := by cases l with
      | nil => injection h with h; omega
      | cons c r => cases h
    subst he
    exact .inl ⟨4, by decide, by unfold p1; rw [h1]; exact fs_bad (by decide), by unfold rKey; rw [h], by rw [h1]; decide⟩
  | got s l1 =>
    have h1 : s1 l = .got s l1 := by unfold s1; rw [h]; rfl
    by_cases hs : s < 1 ∨ 4 < s
    · have hb : sortB s = false := by unfold sortB; rcases hs with hs | hs <;> simp <;> omega
      refine .inl ⟨3, by decide, ?_, ?_, ?_⟩
      · unfold p1; rw [h1]; show fs (sortB s) 3 (0, l1) = _; rw [hb]; rfl
      · unfold rKey; rw [h]; simp only; rw [if_pos hs]
      · rw [h1]; show s ≠ 4; omega
    · have hb : sortB s = true := by unfold sortB; simp; omega
      refine .inr ⟨s, l1, rfl, by rw [h1]; rfl, by omega, by omega, ?_⟩
      unfold p1; rw [h1]; show fs (sortB s) 3 (0, l1) = _; rw [hb]; rfl
/-- What comes of the cart. -/
theorem second (l : List Int) : (∃ e, e ≠ 0 ∧ s2 l = .bad e ∧ rKey l = .bad e) ∨
    ∃ s c l1 l2, rByte l = .got s l1 ∧ rNum 65535 l1 = .got c l2 ∧ (s1 l).val 0 = s ∧ 1 ≤ s ∧ s ≤ 4 ∧ s2 l = .got c l2 := by
  rcases first l with ⟨e, he, hp, hk, _⟩ | ⟨s, l1, h, hv, h1, h4, hp⟩
  · exact .inl ⟨e, he, d2 he hp, hk⟩
  · have hs2 : s2 l = rNum 65535 l1 := by unfold s2; rw [hp]; rfl
    cases hn : rNum 65535 l1 with
    | bad e =>
      refine .inl ⟨e, rNum_err hn, by rw [hs2, hn], ?_⟩
      unfold rKey; rw [h]; simp only; rw [if_neg (by omega), hn]
    | got c l2 => exact .inr ⟨s, c, l1, l2, h, hn, hv, h1, h4, by rw [hs2, hn]⟩
theorem fin4 (l : List Int) (h : (s1 l).val 0 = 4) : Fin l ((s2 l).err, (s2 l).rst) ⟨(s1 l).val 0, (s2 l).val 0, zero8, 0, 0⟩ := by
  rcases second l with ⟨e, he, hs, hk⟩ | ⟨s, c, l1, l2, hb, hn, hv, _, _, hs⟩
  · exact fin_bad he (by rw [hs]; rfl) hk
  · have h4 : s = 4 := by rw [← hv]; exact h
    subst h4
    refine fin_got (rest := l2) (k' := ⟨4, c, zero8, 0, 0⟩) (by rw [hs]; rfl) ?_ (by rw [hv, hs]; rfl)
    unfold rKey; rw [hb]; simp only; rw [if_neg (by omega), hn]; simp only; rw [if_pos trivial]
/-- What comes of the item. -/
theorem third (l : List Int) (h : (s1 l).val 0 ≠ 4) : (∃ e, e ≠ 0 ∧ p3 l = (e, []) ∧ rKey l = .bad e) ∨
    ∃ s c m l1 l2 l3, rByte l = .got s l1 ∧ rNum 65535 l1 = .got c l2 ∧ rName l2 = .got m l3 ∧ m ≠ zero8 ∧ (s1 l).val 0 = s ∧ 1 ≤ s ∧ s ≤ 4 ∧ (s2 l).val 0 = c ∧ (s3 l).val zero8 = m ∧ p3 l = (0, l3) := by
  rcases second l with ⟨e, he, hs, hk⟩ | ⟨s, c, l1, l2, hb, hn, hv, h1, h4, hs⟩
  · exact .inl ⟨e, he, d3 he hs, hk⟩
  · have n4 : ¬ s = 4 := by rw [← hv]; exact h
    have hs3 : s3 l = rName l2 := by unfold s3; rw [hs]; rfl
    cases hm : rName l2 with
    | bad e =>
      have hne := rName_bad hm
      refine .inl ⟨e, hne, ?_, ?_⟩
      · unfold p3; rw [hs3, hm]; exact fs_bad hne
      · unfold rKey; rw [hb]; simp only; rw [if_neg (by omega), hn]; simp only; rw [if_neg n4, hm]
    | got m l3 =>
      by_cases hz : m = zero8
      · refine .inl ⟨3, by decide, ?_, ?_⟩
        · unfold p3; rw [hs3, hm]; show fs (m != zero8) 3 (0, l3) = _; rw [hz]; rfl
        · unfold rKey; rw [hb]; simp only; rw [if_neg (by omega), hn]; simp only; rw [if_neg n4, hm]; simp only; rw [if_pos hz]
      · refine .inr ⟨s, c, m, l1, l2, l3, hb, hn, hm, hz, hv, h1, h4, by rw [hs]; rfl, by rw [hs3, hm]; rfl, ?_⟩
        unfold p3; rw [hs3, hm]; show fs (m != zero8) 3 (0, l3) = _
        rw [show (m != zero8) = true by simpa using hz]; rfl
/-- What comes of the replica. -/
theorem fourth (l : List Int) (h : (s1 l).val 0 ≠ 4) : (∃ e, e ≠ 0 ∧ p4 l = (e, []) ∧ rKey l = .bad e) ∨
    ∃ s c m r l1 l2 l3 l4, rByte l = .got s l1 ∧ rNum 65535 l1 = .got c l2 ∧ rName l2 = .got m l3 ∧ rByte l3 = .got r l4 ∧ m ≠ zero8 ∧ r < 16 ∧ (s1 l).val 0 = s ∧ 1 ≤ s ∧ s ≤ 4 ∧ (s2 l).val 0 = c ∧ (s3 l).val zero8 = m ∧ (s4 l).val 0 = r ∧ p4 l = (0, l4) := by
  rcases third l h with ⟨e, he, hp, hk⟩ | ⟨s, c, m, l1, l2, l3, hb, hn, hm, hz, hv, h1, h4, hc, hmv, hp⟩
  · exact .inl ⟨e, he, d4 he hp, hk⟩
  · have n4 : ¬ s = 4 := by rw [← hv]; exact h
    have hs4 : s4 l = rByte l3 := by unfold s4; rw [hp]; rfl
    cases hr : rByte l3 with
    | bad e =>
      have hne : e ≠ 0 := by cases l3 with
        | nil => injection hr with hr; omega
        | cons c r => cases hr
      refine .inl ⟨e, hne, ?_, ?_⟩
      · unfold p4; rw [hs4, hr]; exact fs_bad hne
      · unfold rKey; rw [hb]; simp only; rw [if_neg (by omega), hn]; simp only; rw [if_neg n4, hm]; simp only; rw [if_neg hz, hr]
    | got r l4 =>
      by_cases h16 : r < 16
      · refine .inr ⟨s, c, m, r, l1, l2, l3, l4, hb, hn, hm, hr, hz, h16, hv, h1, h4, hc, hmv, by rw [hs4, hr]; rfl, ?_⟩
        unfold p4; rw [hs4, hr]; show fs (decide (r < 16)) 2 (0, l4) = _
        rw [decide_eq_true h16]; rfl
      · refine .inl ⟨2, by decide, ?_, ?_⟩
        · unfold p4; rw [hs4, hr]; show fs (decide (r < 16)) 2 (0, l4) = _
          rw [decide_eq_false h16]; rfl
        · unfold rKey; rw [hb]; simp only; rw [if_neg (by omega), hn]; simp only; rw [if_neg n4, hm]; simp only; rw [if_neg hz, hr]; simp only; rw [if_pos (by omega)]
theorem fin2 (l : List Int) (h : (s1 l).val 0 ≠ 4) (h1 : (s1 l).val 0 ≠ 1) : Fin l (p4 l) ⟨(s1 l).val 0, (s2 l).val 0, (s3 l).val zero8, (s4 l).val 0, 0⟩ := by
  rcases fourth l h with ⟨e, he, hp, hk⟩ | ⟨s, c, m, r, l1, l2, l3, l4, hb, hn, hm, hr, hz, h16, hv, hs1, hs4, hc, hmv, hrv, hp⟩
  · exact fin_bad he hp hk
  · have n4 : ¬ s = 4 := by rw [← hv]; exact h
    have n1 : ¬ s = 1 := by rw [← hv]; exact h1
    refine fin_got (rest := l4) (k' := ⟨s, c, m, r, 0⟩) hp ?_ (by rw [hv, hc, hmv, hrv])
    unfold rKey; rw [hb]; simp only; rw [if_neg (by omega), hn]; simp only; rw [if_neg n4, hm]; simp only; rw [if_neg hz, hr]; simp only; rw [if_neg (by omega), if_neg n1]
theorem fin1 (l : List Int) (h1 : (s1 l).val 0 = 1) (hn0 : 0 ≤ (s5 l).val 0) : Fin l (p5 l) ⟨(s1 l).val 0, (s2 l).val 0, (s3 l).val zero8, (s4 l).val 0, (s5 l).val 0⟩ := by
  rcases fourth l (by rw [h1]; decide) with ⟨e, he, hp, hk⟩ | ⟨s, c, m, r, l1, l2, l3, l4, hb, hn, hm, hr, hz, h16, hv, hs1, hs4, hc, hmv, hrv, hp⟩
  · exact fin_bad he (d5 he hp) hk
  · have e1 : s = 1 := by rw [← hv]; exact h1
    subst e1
    have hs5 : s5 l = rNum 4294967295 l4 := by unfold s5; rw [hp]; rfl
    cases hq : rNum 4294967295 l4 with
    | bad e =>
      have hne := rNum_err hq
      refine fin_bad hne ?_ ?_
      · unfold p5; rw [hs5, hq]; exact fs_bad hne
      · unfold rKey; rw [hb]; simp only; rw [if_neg (by omega), hn]; simp only; rw [if_neg (by decide), hm]; simp only; rw [if_neg hz, hr]; simp only; rw [if_neg (by omega), if_pos trivial, hq]
    | got q l5 =>
      by_cases h0 : q = 0
      · refine fin_bad (e := 3) (by decide) ?_ ?_
        · unfold p5; rw [hs5, hq]; show fs (decide (0 < q)) 3 (0, l5) = _; rw [h0]; rfl
        · unfold rKey; rw [hb]; simp only; rw [if_neg (by omega), hn]; simp only; rw [if_neg (by decide), hm]; simp only; rw [if_neg hz, hr]; simp only; rw [if_neg (by omega), if_pos trivial, hq]; simp only; rw [if_pos h0]
      · by_cases hpos : 0 < q
        · refine fin_got (rest := l5) (k' := ⟨1, c, m, r, q⟩) ?_ ?_ (by rw [hv, hc, hmv, hrv, hs5, hq]; rfl)
          · unfold p5; rw [hs5, hq]; show fs (decide (0 < q)) 3 (0, l5) = _; rw [decide_eq_true hpos]; rfl
          · unfold rKey; rw [hb]; simp only; rw [if_neg (by omega), hn]; simp only; rw [if_neg (by decide), hm]; simp only; rw [if_neg hz, hr]; simp only; rw [if_neg (by omega), if_pos trivial, hq]; simp only; rw [if_neg h0]
        · have : (s5 l).val 0 = q := by rw [hs5, hq]; rfl
          omega
theorem gate_num {e most : Int} {l : List Int} (hb : Bytes l) (hm : 0 ≤ most) : 0 ≤ (gate e (rNum most l)).val 0 ∧ (gate e (rNum most l)).val 0 ≤ most := by
  unfold gate
  split
  · cases h : rNum most l with
    | bad e => exact ⟨Int.le_refl _, hm⟩
    | got x r =>
      have h0 := (rNum_range hb h).1
      refine ⟨h0, ?_⟩
      unfold rNum at h
      split at h
      · split at h
        · cases h
        · injection h with h1 h2
          show x ≤ most
          omega
      · cases h
  · exact ⟨Int.le_refl _, hm⟩
theorem gate_byte {e : Int} {l : List Int} (hb : Bytes l) : 0 ≤ (gate e (rByte l)).val 0 ∧ (gate e (rByte l)).val 0 < 256 := by
  unfold gate
  split
  · cases l with
    | nil => exact ⟨Int.le_refl _, by decide⟩
    | cons c r => exact hb c (List.mem_cons_self ..)
  · exact ⟨Int.le_refl _, by show (0 : Int) < 256; decide⟩
end Go.Proofs.Yteggjihhjdeieaa
