/- The reads of a key one behind the other, each behind the error of those ahead of it, come to what a key's read is. The contracts of need, readFields and Read of package key. -/
import Derived.Test.YteggjihhjdeieaaGreatKeys
namespace Go.Proofs.YteggjihhjdeieaaGreat
open M

/-- An error and what can still be read, behind a check. -/
def fs (b : Bool) (x : Int) (p : Int × List Int) : Int × List Int := if b = true then p else (kept p.1 x, [])
theorem fs_true (x : Int) (p : Int × List Int) : fs true x p = p := rfl
theorem fs_bad {b : Bool} {x e : Int} (he : e ≠ 0) : fs b x (e, []) = (e, []) := by
  unfold fs; split
  · rfl
  · simp only [kept]; rw [if_neg he]
theorem fs_false (x : Int) (l : List Int) : fs false x (0, l) = (x, []) := rfl
def s1 (l : List Int) : Got Int := gate 0 (rByte l)
def p1 (l : List Int) : Int × List Int := fs (sortB ((s1 l).val 0)) 3 ((s1 l).err, (s1 l).rst)
def s2 (l : List Int) : Got Int := gate (p1 l).1 (rNum 65535 (p1 l).2)
def s3 (l : List Int) : Got (List Int) := gate (s2 l).err (rName (s2 l).rst)
def p3 (l : List Int) : Int × List Int := fs ((s3 l).val zero8 != zero8) 3 ((s3 l).err, (s3 l).rst)
def s4 (l : List Int) : Got Int := gate (p3 l).1 (rByte (p3 l).2)
def p4 (l : List Int) : Int × List Int := fs (decide ((s4 l).val 0 < 16)) 2 ((s4 l).err, (s4 l).rst)
def s5 (l : List Int) : Got Int := gate (p4 l).1 (rNum 4294967295 (p4 l).2)
def p5 (l : List Int) : Int × List Int := fs (decide (0 < (s5 l).val 0)) 3 ((s5 l).err, (s5 l).rst)
theorem d5 {l : List Int} {e : Int} (he : e ≠ 0) (h : p4 l = (e, [])) : p5 l = (e, []) := by
  have h5 : s5 l = .bad e := by unfold s5; rw [h]; exact gate_bad he _
  unfold p5; rw [h5]; exact fs_bad he
theorem d4 {l : List Int} {e : Int} (he : e ≠ 0) (h : p3 l = (e, [])) : p4 l = (e, []) := by
  have h5 : s4 l = .bad e := by unfold s4; rw [h]; exact gate_bad he _
  unfold p4; rw [h5]; exact fs_bad he
theorem d3 {l : List Int} {e : Int} (he : e ≠ 0) (h : s2 l = .bad e) : p3 l = (e, []) := by
  have h5 : s3 l = .bad e := by unfold s3; rw [h]; exact gate_bad he _
  unfold p3; rw [h5]; exact fs_bad he
theorem d2 {l : List Int} {e : Int} (he : e ≠ 0) (h : p1 l = (e, [])) : s2 l = .bad e := by unfold s2; rw [h]; exact gate_bad he _
/-- What the reads come to: of a note, of a tag, of the others. -/
structure Fin (l : List Int) (p : Int × List Int) (k : Ky) : Prop where
  err : p.1 = (rKey l).err
  rst : p.2 = (rKey l).rst
  val : p.1 = 0 → k = (rKey l).val kzero
theorem fin_bad {l : List Int} {p : Int × List Int} {k : Ky} {e : Int} (he : e ≠ 0) (hp : p = (e, [])) (hk : rKey l = .bad e) : Fin l p k := by
  subst hp
  exact ⟨by rw [hk]; rfl, by rw [hk]; rfl, fun h => absurd h he⟩
theorem fin_got {l rest : List Int} {p : Int × List Int} {k k' : Ky} (hp : p = (0, rest)) (hk : rKey l = .got k' rest) (he : k = k') : Fin l p k := by
  subst hp
  exact ⟨by rw [hk]; rfl, by rw [hk]; rfl, fun _ => by rw [hk]; exact he⟩
/-- What comes of the sort. -/
theorem first (l : List Int) : (∃ e, e ≠ 0 ∧ p1 l = (e, []) ∧ rKey l = .bad e ∧ (s1 l).val 0 ≠ 4) ∨
    ∃ s l1, rByte l = .got s l1 ∧ (s1 l).val 0 = s ∧ 1 ≤ s ∧ s ≤ 4 ∧ p1 l = (0, l1) := by
  cases h : rByte l with
  | bad e =>
    have h1 : s1 l = .bad e := by unfold s1; rw [h]; rfl
    have he : e = 4 := by cases l with
      | nil => injection h with h; omega
      | cons c r => cases h
    subst he
    exact .inl ⟨4, by decide, by unfold p1; rw [h1]; exact fs_bad (by decide), by unfold rKey; rw [h], by rw [h1]; decide⟩
  | got s l1 =>
    have h1 : s1 l = .got s l1 := by unfold s1; rw [h]; rfl
    by_cases hs : s < 1 ∨ 4 < s
    · have hb : sortB s = false := by unfold sortB; rcases hs with hs | hs <;> simp <;> omega
      refine .inl ⟨3, by decide, ?_, ?_, ?_⟩
      · unfold p1; rw [h1]; show fs (sortB s) 3 (0, l1) = _; rw [hb]; rfl
      · unfold rKey; rw [h]; simp only; rw [if_pos hs]
      · rw [h1]; show s ≠ 4; omega
    · have hb : sortB s = true := by unfold sortB; simp; omega
      refine .inr ⟨s, l1, rfl, by rw [h1]; rfl, by omega, by omega, ?_⟩
      unfold p1; rw [h1]; show fs (sortB s) 3 (0, l1) = _; rw [hb]; rfl
/-- What comes of the cart. -/
theorem second (l : List Int) : (∃ e, e ≠ 0 ∧ s2 l = .bad e ∧ rKey l = .bad e) ∨
    ∃ s c l1 l2, rByte l = .got s l1 ∧ rNum 65535 l1 = .got c l2 ∧ (s1 l).val 0 = s ∧ 1 ≤ s ∧ s ≤ 4 ∧ s2 l = .got c l2 := by
  rcases first l with ⟨e, he, hp, hk, _⟩ | ⟨s, l1, h, hv, h1, h4, hp⟩
  · exact .inl ⟨e, he, d2 he hp, hk⟩
  · have hs2 : s2 l = rNum 65535 l1 := by unfold s2; rw [hp]; rfl
    cases hn : rNum 65535 l1 with
    | bad e =>
      refine .inl ⟨e, rNum_err hn, by rw [hs2, hn], ?_⟩
      unfold rKey; rw [h]; simp only; rw [if_neg (by omega), hn]
    | got c l2 => exact .inr ⟨s, c, l1, l2, h, hn, hv, h1, h4, by rw [hs2, hn]⟩
theorem fin4 (l : List Int) (h : (s1 l).val 0 = 4) : Fin l ((s2 l).err, (s2 l).rst) ⟨(s1 l).val 0, (s2 l).val 0, zero8, 0, 0⟩ := by
  rcases second l with ⟨e, he, hs, hk⟩ | ⟨s, c, l1, l2, hb, hn, hv, _, _, hs⟩
  · exact fin_bad he (by rw [hs]; rfl) hk
  · have h4 : s = 4 := by rw [← hv]; exact h
    subst h4
    refine fin_got (rest := l2) (k' := ⟨4, c, zero8, 0, 0⟩) (by rw [hs]; rfl) ?_ (by rw [hv, hs]; rfl)
    unfold rKey; rw [hb]; simp only; rw [if_neg (by omega), hn]; simp only; rw [if_pos trivial]
/-- What comes of the item. -/
theorem third (l : List Int) (h : (s1 l).val 0 ≠ 4) : (∃ e, e ≠ 0 ∧ p3 l = (e, []) ∧ rKey l = .bad e) ∨
    ∃ s c m l1 l2 l3, rByte l = .got s l1 ∧ rNum 65535 l1 = .got c l2 ∧ rName l2 = .got m l3 ∧ m ≠ zero8 ∧ (s1 l).val 0 = s ∧ 1 ≤ s ∧ s ≤ 4 ∧ (s2 l).val 0 = c ∧ (s3 l).val zero8 = m ∧ p3 l = (0, l3) := by
  rcases second l with ⟨e, he, hs, hk⟩ | ⟨s, c, l1, l2, hb, hn, hv, h1, h4, hs⟩
  · exact .inl ⟨e, he, d3 he hs, hk⟩
  · have n4 : ¬ s = 4 := by rw [← hv]; exact h
    have hs3 : s3 l = rName l2 := by unfold s3; rw [hs]; rfl
    cases hm : rName l2 with
    | bad e =>
      have hne := rName_bad hm
      refine .inl ⟨e, hne, ?_, ?_⟩
      · unfold p3; rw [hs3, hm]; exact fs_bad hne
      · unfold rKey; rw [hb]; simp only; rw [if_neg (by omega), hn]; simp only; rw [if_neg n4, hm]
    | got m l3 =>
      by_cases hz : m = zero8
      · refine .inl ⟨3, by decide, ?_, ?_⟩
        · unfold p3; rw [hs3, hm]; show fs (m != zero8) 3 (0, l3) = _; rw [hz]; rfl
        · unfold rKey; rw [hb]; simp only; rw [if_neg (by omega), hn]; simp only; rw [if_neg n4, hm]; simp only; rw [if_pos hz]
      · refine .inr ⟨s, c, m, l1, l2, l3, hb, hn, hm, hz, hv, h1, h4, by rw [hs]; rfl, by rw [hs3, hm]; rfl, ?_⟩
        unfold p3; rw [hs3, hm]; show fs (m != zero8) 3 (0, l3) = _
        rw [show (m != zero8) = true by simpa using hz]; rfl
/-- What comes of the replica. -/
theorem fourth (l : List Int) (h : (s1 l).val 0 ≠ 4) : (∃ e, e ≠ 0 ∧ p4 l = (e, []) ∧ rKey l = .bad e) ∨
    ∃ s c m r l1 l2 l3 l4, rByte l = .got s l1 ∧ rNum 65535 l1 = .got c l2 ∧ rName l2 = .got m l3 ∧ rByte l3 = .got r l4 ∧ m ≠ zero8 ∧ r < 16 ∧ (s1 l).val 0 = s ∧ 1 ≤ s ∧ s ≤ 4 ∧ (s2 l).val 0 = c ∧ (s3 l).val zero8 = m ∧ (s4 l).val 0 = r ∧ p4 l = (0, l4) := by
  rcases third l h with ⟨e, he, hp, hk⟩ | ⟨s, c, m, l1, l2, l3, hb, hn, hm, hz, hv, h1, h4, hc, hmv, hp⟩
  · exact .inl ⟨e, he, d4 he hp, hk⟩
  · have n4 : ¬ s = 4 := by rw [← hv]; exact h
    have hs4 : s4 l = rByte l3 := by unfold s4; rw [hp]; rfl
    cases hr : rByte l3 with
    | bad e =>
      have hne : e ≠ 0 := by cases l3 with
        | nil => injection hr with hr; omega
        | cons c r => cases hr
      refine .inl ⟨e, hne, ?_, ?_⟩
      · unfold p4; rw [hs4, hr]; exact fs_bad hne
      · unfold rKey; rw [hb]; simp only; rw [if_neg (by omega), hn]; simp only; rw [if_neg n4, hm]; simp only; rw [if_neg hz, hr]
    | got r l4 =>
      by_cases h16 : r < 16
      · refine .inr ⟨s, c, m, r, l1, l2, l3, l4, hb, hn, hm, hr, hz, h16, hv, h1, h4, hc, hmv, by rw [hs4, hr]; rfl, ?_⟩
        unfold p4; rw [hs4, hr]; show fs (decide (r < 16)) 2 (0, l4) = _
        rw [decide_eq_true h16]; rfl
      · refine .inl ⟨2, by decide, ?_, ?_⟩
        · unfold p4; rw [hs4, hr]; show fs (decide (r < 16)) 2 (0, l4) = _
          rw [decide_eq_false h16]; rfl
        · unfold rKey; rw [hb]; simp only; rw [if_neg (by omega), hn]; simp only; rw [if_neg n4, hm]; simp only; rw [if_neg hz, hr]; simp only; rw [if_pos (by omega)]
theorem fin2 (l : List Int) (h : (s1 l).val 0 ≠ 4) (h1 : (s1 l).val 0 ≠ 1) : Fin l (p4 l) ⟨(s1 l).val 0, (s2 l).val 0, (s3 l).val zero8, (s4 l).val 0, 0⟩ := by
  rcases fourth l h with ⟨e, he, hp, hk⟩ | ⟨s, c, m, r, l1, l2, l3, l4, hb, hn, hm, hr, hz, h16, hv, hs1, hs4, hc, hmv, hrv, hp⟩
  · exact fin_bad he hp hk
  · have n4 : ¬ s = 4 := by rw [← hv]; exact h
    have n1 : ¬ s = 1 := by rw [← hv]; exact h1
    refine fin_got (rest := l4) (k' := ⟨s, c, m, r, 0⟩) hp ?_ (by rw [hv, hc, hmv, hrv])
    unfold rKey; rw [hb]; simp only; rw [if_neg (by omega), hn]; simp only; rw [if_neg n4, hm]; simp only; rw [if_neg hz, hr]; simp only; rw [if_neg (by omega), if_neg n1]
theorem fin1 (l : List Int) (h1 : (s1 l).val 0 = 1) (hn0 : 0 ≤ (s5 l).val 0) : Fin l (p5 l) ⟨(s1 l).val 0, (s2 l).val 0, (s3 l).val zero8, (s4 l).val 0, (s5 l).val 0⟩ := by
  rcases fourth l (by rw [h1]; decide) with ⟨e, he, hp, hk⟩ | ⟨s, c, m, r, l1, l2, l3, l4, hb, hn, hm, hr, hz, h16, hv, hs1, hs4, hc, hmv, hrv, hp⟩
  · exact fin_bad he (d5 he hp) hk
  · have e1 : s = 1 := by rw [← hv]; exact h1
    subst e1
    have hs5 : s5 l = rNum 4294967295 l4 := by unfold s5; rw [hp]; rfl
    cases hq : rNum 4294967295 l4 with
    | bad e =>
      have hne := rNum_err hq
      refine fin_bad hne ?_ ?_
      · unfold p5; rw [hs5, hq]; exact fs_bad hne
      · unfold rKey; rw [hb]; simp only; rw [if_neg (by omega), hn]; simp only; rw [if_neg (by decide), hm]; simp only; rw [if_neg hz, hr]; simp only; rw [if_neg (by omega), if_pos trivial, hq]
    | got q l5 =>
      by_cases h0 : q = 0
      · refine fin_bad (e := 3) (by decide) ?_ ?_
        · unfold p5; rw [hs5, hq]; show fs (decide (0 < q)) 3 (0, l5) = _; rw [h0]; rfl
        · unfold rKey; rw [hb]; simp only; rw [if_neg (by omega), hn]; simp only; rw [if_neg (by decide), hm]; simp only; rw [if_neg hz, hr]; simp only; rw [if_neg (by omega), if_pos trivial, hq]; simp only; rw [if_pos h0]
      · by_cases hpos : 0 < q
        · refine fin_got (rest := l5) (k' := ⟨1, c, m, r, q⟩) ?_ ?_ (by rw [hv, hc, hmv, hrv, hs5, hq]; rfl)
          · unfold p5; rw [hs5, hq]; show fs (decide (0 < q)) 3 (0, l5) = _; rw [decide_eq_true hpos]; rfl
          · unfold rKey; rw [hb]; simp only; rw [if_neg (by omega), hn]; simp only; rw [if_neg (by decide), hm]; simp only; rw [if_neg hz, hr]; simp only; rw [if_neg (by omega), if_pos trivial, hq]; simp only; rw [if_neg h0]
        · have : (s5 l).val 0 = q := by rw [hs5, hq]; rfl
          omega
theorem gate_num {e most : Int} {l : List Int} (hb : Bytes l) (hm : 0 ≤ most) : 0 ≤ (gate e (rNum most l)).val 0 ∧ (gate e (rNum most l)).val 0 ≤ most := by
  unfold gate
  split
  · cases h : rNum most l with
    | bad e => exact ⟨Int.le_refl _, hm⟩
    | got x r =>
      have h0 := (rNum_range hb h).1
      refine ⟨h0, ?_⟩
      unfold rNum at h
      split at h
      · split at h
        · cases h
        · injection h with h1 h2
          show x ≤ most
          omega
      · cases h
  · exact ⟨Int.le_refl _, hm⟩
theorem gate_byte {e : Int} {l : List Int} (hb : Bytes l) : 0 ≤ (gate e (rByte l)).val 0 ∧ (gate e (rByte l)).val 0 < 256 := by
  unfold gate
  split
  · cases l with
    | nil => exact ⟨Int.le_refl _, by decide⟩
    | cons c r => exact hb c (List.mem_cons_self ..)
  · exact ⟨Int.le_refl _, by show (0 : Int) < 256; decide⟩
end Go.Proofs.YteggjihhjdeieaaGreat
namespace Go.Proofs.YteggjihhjdeieaaGreat
open Go.RowKit

theorem CurAt.bytes {w : World} {g : Nat} {R : Option Nat} {e : Int} {l : List Int} (h : CurAt w g R e l) : M.Bytes l := by
  obtain ⟨v, lv, h1, _, h2, h3⟩ := h
  by_cases he : e = 0
  · rw [← h2 he]; exact h1.2.1.1.bytes
  · rw [h3 he]; intro x hx; cases hx
theorem kept_ne {f e : Int} (he : e ≠ 0) : kept f e ≠ 0 := by
  unfold kept; split
  · exact he
  · assumption
theorem curFail_is (g : Nat) (R : Option Nat) (e x : Int) (l : List Int) (w : World) (h : CurAt w g R e l) (hx : x ≠ 0) :
    Calls Tryz.prog 27 #[.pointer (some ⟨g, 0, none⟩), .int .i64 x] w fun r w' => (∃ y, r = .returned y) ∧ CurAt w' g R (kept e x) [] ∧ Only g w w' := by
  obtain ⟨v, lv, h1, hlv, _, _⟩ := h
  refine (fail_is g e x v w h1.1).mono ?_
  rintro r w' ⟨hr, hb, ho⟩
  exact ⟨hr, curAt_bad ⟨hb, h1.2.1.only ho h1.2.2.1, h1.2.2.1, fun r hr => Nat.lt_of_lt_of_le (h1.2.2.2 r hr) ho.size⟩ hlv (kept_ne hx), ho⟩
/-- The method value c.Fail. -/
abbrev failF (g : Nat) : Value := .func (.func 27) #[.pointer (some ⟨g, 0, none⟩)] #[]
theorem need_is (b : Bool) (x : Int) (g : Nat) (R : Option Nat) (e : Int) (l : List Int) (p : Int × List Int) (w : World) (h : CurAt w g R e l) (hx : x ≠ 0) (hp : Hid (fs b x (e, l) = p)) :
    Calls Tryz.prog 80 #[.bool b, .int .i64 x, failF g] w fun r w' => (∃ y, r = .returned y) ∧ CurAt w' g R p.1 p.2 ∧ Only g w w' := by
  have HC := Lib.hid h
  clear h
  have hp' := hp.out
  subst hp'
  clear hp
  cases b with
  | true =>
    go_enter Tryz.func80, Tryz.ntmps80
    go_wp2_with fail
    go_end0
    exact ⟨⟨_, rfl⟩, HC.out, Only.refl _ _⟩
  | false =>
    go_enter Tryz.func80, Tryz.ntmps80
    go_wp2_with fail
    refine (curFail_is g R e x l _ HC.out hx).mono ?_
    rintro r w1 ⟨⟨y, rfl⟩, hc, ho⟩
    have C1 := Lib.hid hc
    have O1 := Lib.hid ho
    clear hc ho
    go_wp2_with fail
    go_end0
    exact ⟨⟨_, rfl⟩, C1.out, O1.out⟩
/- FIELDS -/
theorem curErrK_is (g : Nat) (R : Option Nat) (e : Int) (l : List Int) (w : World) (h : CurAt w g R e l) :
    Calls Tryz.prog 14 #[.pointer (some ⟨g, 0, none⟩)] w fun r w' => r = .returned (.int .i64 e) ∧ w = w' := by
  obtain ⟨v, lv, hc, _⟩ := h
  exact err_is g e v w hc.1
/-- A read, and a check, of a cursor at g. -/
def Rd (g : Nat) (R : Option Nat) (f : FuncId) (args : Array Value) (e : Int) (l : List Int) (v : Value) (e' : Int) (l' : List Int) : Prop :=
  ∀ W, CurAt W g R e l → Calls Tryz.prog f args W fun r w' => r = .returned v ∧ CurAt w' g R e' l' ∧ Only g W w'
def Nd (g : Nat) (R : Option Nat) (x : Int) (b : Bool) (e : Int) (l : List Int) (e' : Int) (l' : List Int) : Prop :=
  ∀ W, CurAt W g R e l → Calls Tryz.prog 80 #[.bool b, .int .i64 x, failF g] W fun r w' => (∃ y, r = .returned y) ∧ CurAt w' g R e' l' ∧ Only g W w'
/-- What a read of a key comes to. -/
def ReadsK (w : World) (g : Nat) (R : Option Nat) (k : Ky) (e : Int) (l : List Int) (r : Ending) (w' : World) : Prop := r = .returned (.agg k.cells.toArray) ∧ CurAt w' g R e l ∧ Only g w w'
set_option maxRecDepth 100000 in
set_option maxHeartbeats 1000000 in
theorem rf4 (g : Nat) (R : Option Nat) (l l1 l2 m1 : List Int) (s c e1 e2 f1 : Int) (b1 : Bool) (w : World) (h : CurAt w g R 0 l) (H1 : Hid (Rd g R 46 #[.pointer (some ⟨g, 0, none⟩)] 0 l (.int .u8 s) e1 l1)) (B1 : Hid (sortB s = b1)) (N1 : Hid (Nd g R 3 b1 e1 l1 f1 m1)) (H2 : Hid (Rd g R 48 #[.pointer (some ⟨g, 0, none⟩), .int .u64 65535] f1 m1 (.int .u64 c) e2 l2)) (cw : IntKind.u16.wrap c = c) (Z4 : Hid (s = 4)) :
    Calls Tryz.prog 45 #[.pointer (some ⟨g, 0, none⟩), failF g] w (ReadsK w g R ⟨s, c, M.zero8, 0, 0⟩ e2 l2) := by
  have hz := zero27
  have GN := Lib.hid (h.far (Nat.le_succ w.heap.size)).1
  have RN := Lib.hid (h.far (Nat.le_succ w.heap.size)).2
  have GZ := Lib.hid (h.far (Nat.le_refl w.heap.size)).1
  have RZ := Lib.hid (h.far (Nat.le_refl w.heap.size)).2
  have NG := Lib.hid GN.out.symm
  have ZG := Lib.hid GZ.out.symm
  have ZN := Lib.hid (show w.heap.size ≠ w.heap.size + 1 by omega)
  have K0 := Lib.hid (blk2 w (.cells kzero.cells.toArray 27) 27 kzero.cells)
  have R0 := Lib.hid ((blk_alloc w 27 kzero.cells).alloc (.cells kzero.cells.toArray 27))
  have C0 := Lib.hid ((h.alloc (.cells kzero.cells.toArray 27)).alloc (.cells kzero.cells.toArray 27))
  have O0 := Lib.hid (((Only.refl g w).alloc (.cells kzero.cells.toArray 27)).alloc (.cells kzero.cells.toArray 27))
  clear h
  go_enter Tryz.func45, Tryz.ntmps45
  go_wp2_with fail
  refine (H1.out _ C0.out).mono ?_
  rintro rr w1 ⟨rfl, hc, ho⟩
  have C1 := Lib.hid hc
  have K1 := Lib.hid (K0.out.only ho NG.out)
  have R1 := Lib.hid (R0.out.only ho ZG.out)
  have O1 := Lib.hid (O0.out.trans ho)
  clear hc ho
  have cc2 := K1.out.cell (kc0 kzero)
  have ff2 := K1.out.frozen 0
  have OS := Lib.hid (Only.set (w.heap.size + 1) 0 w1 (.int .u8 s))
  have K2 := Lib.hid (show Blk (w1.setCell ⟨w.heap.size + 1, 0, none⟩ (.int .u8 s)) (w.heap.size + 1) 27 (⟨s, 0, M.zero8, 0, 0⟩ : Ky).cells from K1.out.set 0 (.int .u8 s))
  have C2 := Lib.hid (C1.out.only OS.out GN.out RN.out)
  have R2 := Lib.hid (R1.out.only OS.out ZN.out)
  have O2 := Lib.hid (O1.out.new OS.out (Nat.le_succ _))
  clear OS
  go_wp2_with fail
  refine (isSort_is s b1 _ B1).mono ?_
  rintro rr ww ⟨rfl, rfl⟩
  go_wp2_with fail
  refine (N1.out _ C2.out).mono ?_
  rintro rr w3 ⟨⟨y, rfl⟩, hc, ho⟩
  have C3 := Lib.hid hc
  have K3 := Lib.hid (K2.out.only ho NG.out)
  have R3 := Lib.hid (R2.out.only ho ZG.out)
  have O3 := Lib.hid (O2.out.trans ho)
  clear hc ho
  go_wp2_with fail
  refine (H2.out _ C3.out).mono ?_
  rintro rr w4 ⟨rfl, hc, ho⟩
  have C4 := Lib.hid hc
  have K4 := Lib.hid (K3.out.only ho NG.out)
  have R4 := Lib.hid (R3.out.only ho ZG.out)
  have O4 := Lib.hid (O3.out.trans ho)
  clear hc ho
  have cc5 := K4.out.cell (kc1 (⟨s, 0, M.zero8, 0, 0⟩ : Ky))
  have ff5 := K4.out.frozen 1
  have OS := Lib.hid (Only.set (w.heap.size + 1) 1 w4 (.int .u16 c))
  have K5 := Lib.hid (show Blk (w4.setCell ⟨w.heap.size + 1, 1, none⟩ (.int .u16 c)) (w.heap.size + 1) 27 (⟨s, c, M.zero8, 0, 0⟩ : Ky).cells from K4.out.set 1 (.int .u16 c))
  have C5 := Lib.hid (C4.out.only OS.out GN.out RN.out)
  have R5 := Lib.hid (R4.out.only OS.out ZN.out)
  have O5 := Lib.hid (O4.out.new OS.out (Nat.le_succ _))
  clear OS
  have ss := K5.out.cell (kc0 (⟨s, c, M.zero8, 0, 0⟩ : Ky))
  have h4 := Z4.out
  go_wp2_with (first
    | refine wpList_load_ky rfl _ rfl (w.heap.size + 1) 0 (⟨s, c, M.zero8, 0, 0⟩ : Ky) rfl K5.out.range rfl ?_
    | (refine wpList_store_ky rfl _ _ rfl w.heap.size kzero (⟨s, c, M.zero8, 0, 0⟩ : Ky) rfl rfl R5.out rfl rfl ?_; intro wz KZ OZ))
  refine bodyPost_ret (results_ky rfl _ _ w.heap.size (⟨s, c, M.zero8, 0, 0⟩ : Ky) rfl KZ.out rfl) rfl ?_
  exact ⟨rfl, C5.out.only OZ.out GZ.out RZ.out, O5.out.new OZ.out (Nat.le_refl _)⟩
set_option maxRecDepth 100000 in
set_option maxHeartbeats 1000000 in
theorem rf2 (g : Nat) (R : Option Nat) (l l1 l2 m1 : List Int) (s c e1 e2 f1 : Int) (b1 : Bool) (m l3 l4 m3 m4 : List Int) (r e3 e4 f3 f4 : Int) (b3 : Bool) (w : World) (h : CurAt w g R 0 l) (H1 : Hid (Rd g R 46 #[.pointer (some ⟨g, 0, none⟩)] 0 l (.int .u8 s) e1 l1)) (B1 : Hid (sortB s = b1)) (N1 : Hid (Nd g R 3 b1 e1 l1 f1 m1)) (H2 : Hid (Rd g R 48 #[.pointer (some ⟨g, 0, none⟩), .int .u64 65535] f1 m1 (.int .u64 c) e2 l2)) (cw : IntKind.u16.wrap c = c) (H3 : Hid (Rd g R 52 #[.pointer (some ⟨g, 0, none⟩)] e2 l2 (.agg (nm m)) e3 l3)) (ML : Hid (m.length = 8)) (B3 : Hid ((m != M.zero8) = b3)) (N3 : Hid (Nd g R 3 b3 e3 l3 f3 m3)) (H4 : Hid (Rd g R 46 #[.pointer (some ⟨g, 0, none⟩)] f3 m3 (.int .u8 r) e4 l4)) (N4 : Hid (Nd g R 2 (decide (r < 16)) e4 l4 f4 m4)) (Z4 : Hid (¬ s = 4)) (Z1 : Hid (¬ s = 1)) :
    Calls Tryz.prog 45 #[.pointer (some ⟨g, 0, none⟩), failF g] w (ReadsK w g R ⟨s, c, m, r, 0⟩ f4 m4) := by
  have hz := zero27
  have GN := Lib.hid (h.far (Nat.le_succ w.heap.size)).1
  have RN := Lib.hid (h.far (Nat.le_succ w.heap.size)).2
  have GZ := Lib.hid (h.far (Nat.le_refl w.heap.size)).1
  have RZ := Lib.hid (h.far (Nat.le_refl w.heap.size)).2
  have NG := Lib.hid GN.out.symm
  have ZG := Lib.hid GZ.out.symm
  have ZN := Lib.hid (show w.heap.size ≠ w.heap.size + 1 by omega)
  have K0 := Lib.hid (blk2 w (.cells kzero.cells.toArray 27) 27 kzero.cells)
  have R0 := Lib.hid ((blk_alloc w 27 kzero.cells).alloc (.cells kzero.cells.toArray 27))
  have C0 := Lib.hid ((h.alloc (.cells kzero.cells.toArray 27)).alloc (.cells kzero.cells.toArray 27))
  have O0 := Lib.hid (((Only.refl g w).alloc (.cells kzero.cells.toArray 27)).alloc (.cells kzero.cells.toArray 27))
  clear h
  go_enter Tryz.func45, Tryz.ntmps45
  go_wp2_with fail
  refine (H1.out _ C0.out).mono ?_
  rintro rr w1 ⟨rfl, hc, ho⟩
  have C1 := Lib.hid hc
  have K1 := Lib.hid (K0.out.only ho NG.out)
  have R1 := Lib.hid (R0.out.only ho ZG.out)
  have O1 := Lib.hid (O0.out.trans ho)
  clear hc ho
  have cc2 := K1.out.cell (kc0 kzero)
  have ff2 := K1.out.frozen 0
  have OS := Lib.hid (Only.set (w.heap.size + 1) 0 w1 (.int .u8 s))
  have K2 := Lib.hid (show Blk (w1.setCell ⟨w.heap.size + 1, 0, none⟩ (.int .u8 s)) (w.heap.size + 1) 27 (⟨s, 0, M.zero8, 0, 0⟩ : Ky).cells from K1.out.set 0 (.int .u8 s))
  have C2 := Lib.hid (C1.out.only OS.out GN.out RN.out)
  have R2 := Lib.hid (R1.out.only OS.out ZN.out)
  have O2 := Lib.hid (O1.out.new OS.out (Nat.le_succ _))
  clear OS
  go_wp2_with fail
  refine (isSort_is s b1 _ B1).mono ?_
  rintro rr ww ⟨rfl, rfl⟩
  go_wp2_with fail
  refine (N1.out _ C2.out).mono ?_
  rintro rr w3 ⟨⟨y, rfl⟩, hc, ho⟩
  have C3 := Lib.hid hc
  have K3 := Lib.hid (K2.out.only ho NG.out)
  have R3 := Lib.hid (R2.out.only ho ZG.out)
  have O3 := Lib.hid (O2.out.trans ho)
  clear hc ho
  go_wp2_with fail
  refine (H2.out _ C3.out).mono ?_
  rintro rr w4 ⟨rfl, hc, ho⟩
  have C4 := Lib.hid hc
  have K4 := Lib.hid (K3.out.only ho NG.out)
  have R4 := Lib.hid (R3.out.only ho ZG.out)
  have O4 := Lib.hid (O3.out.trans ho)
  clear hc ho
  have cc5 := K4.out.cell (kc1 (⟨s, 0, M.zero8, 0, 0⟩ : Ky))
  have ff5 := K4.out.frozen 1
  have OS := Lib.hid (Only.set (w.heap.size + 1) 1 w4 (.int .u16 c))
  have K5 := Lib.hid (show Blk (w4.setCell ⟨w.heap.size + 1, 1, none⟩ (.int .u16 c)) (w.heap.size + 1) 27 (⟨s, c, M.zero8, 0, 0⟩ : Ky).cells from K4.out.set 1 (.int .u16 c))
  have C5 := Lib.hid (C4.out.only OS.out GN.out RN.out)
  have R5 := Lib.hid (R4.out.only OS.out ZN.out)
  have O5 := Lib.hid (O4.out.new OS.out (Nat.le_succ _))
  clear OS
  have ss := K5.out.cell (kc0 (⟨s, c, M.zero8, 0, 0⟩ : Ky))
  have h4 := Z4.out
  go_wp2_with fail
  refine (H3.out _ C5.out).mono ?_
  rintro rr w6 ⟨rfl, hc, ho⟩
  have C6 := Lib.hid hc
  have K6 := Lib.hid (K5.out.only ho NG.out)
  have R6 := Lib.hid (R5.out.only ho ZG.out)
  have O6 := Lib.hid (O5.out.trans ho)
  clear hc ho
  go_wp2_with (first
    | (refine wpList_store_knm rfl _ _ rfl (w.heap.size + 1) (⟨s, c, M.zero8, 0, 0⟩ : Ky) m rfl rfl K6.out rfl ML.out ?_; intro w7 K7 OS; have C7 := Lib.hid (C6.out.only OS.out GN.out RN.out); have R7 := Lib.hid (R6.out.only OS.out ZN.out); have O7 := Lib.hid (O6.out.new OS.out (Nat.le_succ _)); clear OS)
    | (refine wpList_load_nm rfl _ rfl (w.heap.size + 1) 2 m rfl (Blk.knm (k := (⟨s, c, m, 0, 0⟩ : Ky)) K7.out ML.out) ML.out ?_))
  refine (some_is m b3 _ ML.out B3).mono ?_
  rintro rr w8 ⟨rfl, hb⟩
  have C8 := Lib.hid (C7.out.below hb)
  have K8 := Lib.hid (K7.out.below hb)
  have R8 := Lib.hid (R7.out.below hb)
  have O8 := Lib.hid (O7.out.trans (Only.of_below hb))
  clear hb
  go_wp2_with fail
  refine (N3.out _ C8.out).mono ?_
  rintro rr w9 ⟨⟨y, rfl⟩, hc, ho⟩
  have C9 := Lib.hid hc
  have K9 := Lib.hid (K8.out.only ho NG.out)
  have R9 := Lib.hid (R8.out.only ho ZG.out)
  have O9 := Lib.hid (O8.out.trans ho)
  clear hc ho
  go_wp2_with fail
  refine (H4.out _ C9.out).mono ?_
  rintro rr w10 ⟨rfl, hc, ho⟩
  have C10 := Lib.hid hc
  have K10 := Lib.hid (K9.out.only ho NG.out)
  have R10 := Lib.hid (R9.out.only ho ZG.out)
  have O10 := Lib.hid (O9.out.trans ho)
  clear hc ho
  have cc11 := K10.out.cell (kc10 (k := (⟨s, c, m, 0, 0⟩ : Ky)) ML.out)
  have ff11 := K10.out.frozen 10
  have OS := Lib.hid (Only.set (w.heap.size + 1) 10 w10 (.int .u8 r))
  have K11 := Lib.hid (show Blk (w10.setCell ⟨w.heap.size + 1, 10, none⟩ (.int .u8 r)) (w.heap.size + 1) 27 (⟨s, c, m, r, 0⟩ : Ky).cells from kset10 (⟨s, c, m, 0, 0⟩ : Ky) ML.out r ▸ K10.out.set 10 (.int .u8 r))
  have C11 := Lib.hid (C10.out.only OS.out GN.out RN.out)
  have R11 := Lib.hid (R10.out.only OS.out ZN.out)
  have O11 := Lib.hid (O10.out.new OS.out (Nat.le_succ _))
  clear OS
  go_wp2_with fail
  refine (isRep_is r _).mono ?_
  rintro rr ww ⟨rfl, rfl⟩
  go_wp2_with fail
  refine (N4.out _ C11.out).mono ?_
  rintro rr w12 ⟨⟨y, rfl⟩, hc, ho⟩
  have C12 := Lib.hid hc
  have K12 := Lib.hid (K11.out.only ho NG.out)
  have R12 := Lib.hid (R11.out.only ho ZG.out)
  have O12 := Lib.hid (O11.out.trans ho)
  clear hc ho
  have ss12 := K12.out.cell (kc0 (⟨s, c, m, r, 0⟩ : Ky))
  have h1 := Z1.out
  go_wp2_with (first
    | refine wpList_load_ky rfl _ rfl (w.heap.size + 1) 0 (⟨s, c, m, r, 0⟩ : Ky) rfl K12.out.range ML.out ?_
    | (refine wpList_store_ky rfl _ _ rfl w.heap.size kzero (⟨s, c, m, r, 0⟩ : Ky) rfl rfl R12.out rfl ML.out ?_; intro wz KZ OZ))
  refine bodyPost_ret (results_ky rfl _ _ w.heap.size (⟨s, c, m, r, 0⟩ : Ky) rfl KZ.out ML.out) rfl ?_
  exact ⟨rfl, C12.out.only OZ.out GZ.out RZ.out, O12.out.new OZ.out (Nat.le_refl _)⟩
set_option maxRecDepth 100000 in
set_option maxHeartbeats 1000000 in
theorem rf1 (g : Nat) (R : Option Nat) (l l1 l2 m1 : List Int) (s c e1 e2 f1 : Int) (b1 : Bool) (m l3 l4 m3 m4 : List Int) (r e3 e4 f3 f4 : Int) (b3 : Bool) (l5 m5 : List Int) (q e5 f5 : Int) (w : World) (h : CurAt w g R 0 l) (H1 : Hid (Rd g R 46 #[.pointer (some ⟨g, 0, none⟩)] 0 l (.int .u8 s) e1 l1)) (B1 : Hid (sortB s = b1)) (N1 : Hid (Nd g R 3 b1 e1 l1 f1 m1)) (H2 : Hid (Rd g R 48 #[.pointer (some ⟨g, 0, none⟩), .int .u64 65535] f1 m1 (.int .u64 c) e2 l2)) (cw : IntKind.u16.wrap c = c) (H3 : Hid (Rd g R 52 #[.pointer (some ⟨g, 0, none⟩)] e2 l2 (.agg (nm m)) e3 l3)) (ML : Hid (m.length = 8)) (B3 : Hid ((m != M.zero8) = b3)) (N3 : Hid (Nd g R 3 b3 e3 l3 f3 m3)) (H4 : Hid (Rd g R 46 #[.pointer (some ⟨g, 0, none⟩)] f3 m3 (.int .u8 r) e4 l4)) (N4 : Hid (Nd g R 2 (decide (r < 16)) e4 l4 f4 m4)) (H5 : Hid (Rd g R 48 #[.pointer (some ⟨g, 0, none⟩), .int .u64 4294967295] f4 m4 (.int .u64 q) e5 l5)) (qw : IntKind.u32.wrap q = q) (N5 : Hid (Nd g R 3 (decide (0 < q)) e5 l5 f5 m5)) (Z4 : Hid (¬ s = 4)) (Z1 : Hid (s = 1)) :
    Calls Tryz.prog 45 #[.pointer (some ⟨g, 0, none⟩), failF g] w (ReadsK w g R ⟨s, c, m, r, q⟩ f5 m5) := by
  have hz := zero27
  have GN := Lib.hid (h.far (Nat.le_succ w.heap.size)).1
  have RN := Lib.hid (h.far (Nat.le_succ w.heap.size)).2
  have GZ := Lib.hid (h.far (Nat.le_refl w.heap.size)).1
  have RZ := Lib.hid (h.far (Nat.le_refl w.heap.size)).2
  have NG := Lib.hid GN.out.symm
  have ZG := Lib.hid GZ.out.symm
  have ZN := Lib.hid (show w.heap.size ≠ w.heap.size + 1 by omega)
  have K0 := Lib.hid (blk2 w (.cells kzero.cells.toArray 27) 27 kzero.cells)
  have R0 := Lib.hid ((blk_alloc w 27 kzero.cells).alloc (.cells kzero.cells.toArray 27))
  have C0 := Lib.hid ((h.alloc (.cells kzero.cells.toArray 27)).alloc (.cells kzero.cells.toArray 27))
  have O0 := Lib.hid (((Only.refl g w).alloc (.cells kzero.cells.toArray 27)).alloc (.cells kzero.cells.toArray 27))
  clear h
  go_enter Tryz.func45, Tryz.ntmps45
  go_wp2_with fail
  refine (H1.out _ C0.out).mono ?_
  rintro rr w1 ⟨rfl, hc, ho⟩
  have C1 := Lib.hid hc
  have K1 := Lib.hid (K0.out.only ho NG.out)
  have R1 := Lib.hid (R0.out.only ho ZG.out)
  have O1 := Lib.hid (O0.out.trans ho)
  clear hc ho
  have cc2 := K1.out.cell (kc0 kzero)
  have ff2 := K1.out.frozen 0
  have OS := Lib.hid (Only.set (w.heap.size + 1) 0 w1 (.int .u8 s))
  have K2 := Lib.hid (show Blk (w1.setCell ⟨w.heap.size + 1, 0, none⟩ (.int .u8 s)) (w.heap.size + 1) 27 (⟨s, 0, M.zero8, 0, 0⟩ : Ky).cells from K1.out.set 0 (.int .u8 s))
  have C2 := Lib.hid (C1.out.only OS.out GN.out RN.out)
  have R2 := Lib.hid (R1.out.only OS.out ZN.out)
  have O2 := Lib.hid (O1.out.new OS.out (Nat.le_succ _))
  clear OS
  go_wp2_with fail
  refine (isSort_is s b1 _ B1).mono ?_
  rintro rr ww ⟨rfl, rfl⟩
  go_wp2_with fail
  refine (N1.out _ C2.out).mono ?_
  rintro rr w3 ⟨⟨y, rfl⟩, hc, ho⟩
  have C3 := Lib.hid hc
  have K3 := Lib.hid (K2.out.only ho NG.out)
  have R3 := Lib.hid (R2.out.only ho ZG.out)
  have O3 := Lib.hid (O2.out.trans ho)
  clear hc ho
  go_wp2_with fail
  refine (H2.out _ C3.out).mono ?_
  rintro rr w4 ⟨rfl, hc, ho⟩
  have C4 := Lib.hid hc
  have K4 := Lib.hid (K3.out.only ho NG.out)
  have R4 := Lib.hid (R3.out.only ho ZG.out)
  have O4 := Lib.hid (O3.out.trans ho)
  clear hc ho
  have cc5 := K4.out.cell (kc1 (⟨s, 0, M.zero8, 0, 0⟩ : Ky))
  have ff5 := K4.out.frozen 1
  have OS := Lib.hid (Only.set (w.heap.size + 1) 1 w4 (.int .u16 c))
  have K5 := Lib.hid (show Blk (w4.setCell ⟨w.heap.size + 1, 1, none⟩ (.int .u16 c)) (w.heap.size + 1) 27 (⟨s, c, M.zero8, 0, 0⟩ : Ky).cells from K4.out.set 1 (.int .u16 c))
  have C5 := Lib.hid (C4.out.only OS.out GN.out RN.out)
  have R5 := Lib.hid (R4.out.only OS.out ZN.out)
  have O5 := Lib.hid (O4.out.new OS.out (Nat.le_succ _))
  clear OS
  have ss := K5.out.cell (kc0 (⟨s, c, M.zero8, 0, 0⟩ : Ky))
  have h4 := Z4.out
  go_wp2_with fail
  refine (H3.out _ C5.out).mono ?_
  rintro rr w6 ⟨rfl, hc, ho⟩
  have C6 := Lib.hid hc
  have K6 := Lib.hid (K5.out.only ho NG.out)
  have R6 := Lib.hid (R5.out.only ho ZG.out)
  have O6 := Lib.hid (O5.out.trans ho)
  clear hc ho
  go_wp2_with (first
    | (refine wpList_store_knm rfl _ _ rfl (w.heap.size + 1) (⟨s, c, M.zero8, 0, 0⟩ : Ky) m rfl rfl K6.out rfl ML.out ?_; intro w7 K7 OS; have C7 := Lib.hid (C6.out.only OS.out GN.out RN.out); have R7 := Lib.hid (R6.out.only OS.out ZN.out); have O7 := Lib.hid (O6.out.new OS.out (Nat.le_succ _)); clear OS)
    | (refine wpList_load_nm rfl _ rfl (w.heap.size + 1) 2 m rfl (Blk.knm (k := (⟨s, c, m, 0, 0⟩ : Ky)) K7.out ML.out) ML.out ?_))
  refine (some_is m b3 _ ML.out B3).mono ?_
  rintro rr w8 ⟨rfl, hb⟩
  have C8 := Lib.hid (C7.out.below hb)
  have K8 := Lib.hid (K7.out.below hb)
  have R8 := Lib.hid (R7.out.below hb)
  have O8 := Lib.hid (O7.out.trans (Only.of_below hb))
  clear hb
  go_wp2_with fail
  refine (N3.out _ C8.out).mono ?_
  rintro rr w9 ⟨⟨y, rfl⟩, hc, ho⟩
  have C9 := Lib.hid hc
  have K9 := Lib.hid (K8.out.only ho NG.out)
  have R9 := Lib.hid (R8.out.only ho ZG.out)
  have O9 := Lib.hid (O8.out.trans ho)
  clear hc ho
  go_wp2_with fail
  refine (H4.out _ C9.out).mono ?_
  rintro rr w10 ⟨rfl, hc, ho⟩
  have C10 := Lib.hid hc
  have K10 := Lib.hid (K9.out.only ho NG.out)
  have R10 := Lib.hid (R9.out.only ho ZG.out)
  have O10 := Lib.hid (O9.out.trans ho)
  clear hc ho
  have cc11 := K10.out.cell (kc10 (k := (⟨s, c, m, 0, 0⟩ : Ky)) ML.out)
  have ff11 := K10.out.frozen 10
  have OS := Lib.hid (Only.set (w.heap.size + 1) 10 w10 (.int .u8 r))
  have K11 := Lib.hid (show Blk (w10.setCell ⟨w.heap.size + 1, 10, none⟩ (.int .u8 r)) (w.heap.size + 1) 27 (⟨s, c, m, r, 0⟩ : Ky).cells from kset10 (⟨s, c, m, 0, 0⟩ : Ky) ML.out r ▸ K10.out.set 10 (.int .u8 r))
  have C11 := Lib.hid (C10.out.only OS.out GN.out RN.out)
  have R11 := Lib.hid (R10.out.only OS.out ZN.out)
  have O11 := Lib.hid (O10.out.new OS.out (Nat.le_succ _))
  clear OS
  go_wp2_with fail
  refine (isRep_is r _).mono ?_
  rintro rr ww ⟨rfl, rfl⟩
  go_wp2_with fail
  refine (N4.out _ C11.out).mono ?_
  rintro rr w12 ⟨⟨y, rfl⟩, hc, ho⟩
  have C12 := Lib.hid hc
  have K12 := Lib.hid (K11.out.only ho NG.out)
  have R12 := Lib.hid (R11.out.only ho ZG.out)
  have O12 := Lib.hid (O11.out.trans ho)
  clear hc ho
  have ss12 := K12.out.cell (kc0 (⟨s, c, m, r, 0⟩ : Ky))
  clear h4
  have h1 := Z1.out
  go_wp2_with fail
  refine (H5.out _ C12.out).mono ?_
  rintro rr w13 ⟨rfl, hc, ho⟩
  have C13 := Lib.hid hc
  have K13 := Lib.hid (K12.out.only ho NG.out)
  have R13 := Lib.hid (R12.out.only ho ZG.out)
  have O13 := Lib.hid (O12.out.trans ho)
  clear hc ho
  clear h1
  have cc14 := K13.out.cell (kc11 (k := (⟨s, c, m, r, 0⟩ : Ky)) ML.out)
  have ff14 := K13.out.frozen 11
  have OS := Lib.hid (Only.set (w.heap.size + 1) 11 w13 (.int .u32 q))
  have K14 := Lib.hid (show Blk (w13.setCell ⟨w.heap.size + 1, 11, none⟩ (.int .u32 q)) (w.heap.size + 1) 27 (⟨s, c, m, r, q⟩ : Ky).cells from kset11 (⟨s, c, m, r, 0⟩ : Ky) ML.out q ▸ K13.out.set 11 (.int .u32 q))
  have C14 := Lib.hid (C13.out.only OS.out GN.out RN.out)
  have R14 := Lib.hid (R13.out.only OS.out ZN.out)
  have O14 := Lib.hid (O13.out.new OS.out (Nat.le_succ _))
  clear OS
  go_wp2_with fail
  refine (N5.out _ C14.out).mono ?_
  rintro rr w15 ⟨⟨y, rfl⟩, hc, ho⟩
  have C15 := Lib.hid hc
  have K15 := Lib.hid (K14.out.only ho NG.out)
  have R15 := Lib.hid (R14.out.only ho ZG.out)
  have O15 := Lib.hid (O14.out.trans ho)
  clear hc ho
  go_wp2_with (first
    | refine wpList_load_ky rfl _ rfl (w.heap.size + 1) 0 (⟨s, c, m, r, q⟩ : Ky) rfl K15.out.range ML.out ?_
    | (refine wpList_store_ky rfl _ _ rfl w.heap.size kzero (⟨s, c, m, r, q⟩ : Ky) rfl rfl R15.out rfl ML.out ?_; intro wz KZ OZ))
  refine bodyPost_ret (results_ky rfl _ _ w.heap.size (⟨s, c, m, r, q⟩ : Ky) rfl KZ.out ML.out) rfl ?_
  exact ⟨rfl, C15.out.only OZ.out GZ.out RZ.out, O15.out.new OZ.out (Nat.le_refl _)⟩

theorem rst_num {e most : Int} {l : List Int} (h : M.Bytes l) : M.Bytes (M.gate e (M.rNum most l)).rst := by
  unfold M.gate M.rNum
  split
  · split
    · split
      · intro x hx; cases hx
      · exact fun x hx => h x (List.mem_of_mem_drop hx)
    · intro x hx; cases hx
  · intro x hx; cases hx
theorem rst_byte {e : Int} {l : List Int} (h : M.Bytes l) : M.Bytes (M.gate e (M.rByte l)).rst := by
  unfold M.gate
  split
  · cases l with
    | nil => intro x hx; cases hx
    | cons c r => exact fun x hx => h x (List.mem_cons_of_mem _ hx)
  · intro x hx; cases hx
theorem rst_name {e : Int} {l : List Int} (h : M.Bytes l) : M.Bytes (M.gate e (M.rName l)).rst := by
  unfold M.gate
  split
  · cases l with
    | nil => intro x hx; cases hx
    | cons c r =>
      rw [M.rName_cons]
      split
      · intro x hx; cases hx
      · split
        · intro x hx; cases hx
        · split
          · intro x hx; cases hx
          · exact fun x hx => h x (List.mem_cons_of_mem _ (List.mem_of_mem_drop hx))
  · intro x hx; cases hx
theorem fs_bytes {b : Bool} {x : Int} {p : Int × List Int} (h : M.Bytes p.2) : M.Bytes (fs b x p).2 := by
  unfold fs; split
  · exact h
  · intro x hx; cases hx
theorem bytes_p1 {l : List Int} (h : M.Bytes l) : M.Bytes (p1 l).2 := fs_bytes (p := ((s1 l).err, (s1 l).rst)) (rst_byte h)
theorem bytes_p3 {l : List Int} (h : M.Bytes l) : M.Bytes (p3 l).2 := fs_bytes (p := ((s3 l).err, (s3 l).rst)) (rst_name (rst_num (bytes_p1 h)))
theorem bytes_p4 {l : List Int} (h : M.Bytes l) : M.Bytes (p4 l).2 := fs_bytes (p := ((s4 l).err, (s4 l).rst)) (rst_byte (bytes_p3 h))
theorem s3_len (l : List Int) : ((s3 l).val M.zero8).length = 8 := name_len
theorem readFields_is (g : Nat) (R : Option Nat) (l : List Int) (hb : M.Bytes l) :
    ∃ k e' l', Fin l (e', l') k ∧ k.m.length = 8 ∧ ∀ w, CurAt w g R 0 l → Calls Tryz.prog 45 #[.pointer (some ⟨g, 0, none⟩), failF g] w (ReadsK w g R k e' l') := by
  have H1 : Rd g R 46 #[.pointer (some ⟨g, 0, none⟩)] 0 l (.int .u8 ((s1 l).val 0)) (s1 l).err (s1 l).rst := fun W hW => byte_is g R 0 l (s1 l) W hW (Lib.hid rfl)
  have N1 : Nd g R 3 (sortB ((s1 l).val 0)) (s1 l).err (s1 l).rst (p1 l).1 (p1 l).2 := fun W hW => need_is _ 3 g R _ _ (p1 l) W hW (by decide) (Lib.hid rfl)
  have H2 : Rd g R 48 #[.pointer (some ⟨g, 0, none⟩), .int .u64 65535] (p1 l).1 (p1 l).2 (.int .u64 ((s2 l).val 0)) (s2 l).err (s2 l).rst := fun W hW => num_is g R _ 65535 _ (s2 l) W hW (Lib.hid rfl)
  have cr : 0 ≤ (s2 l).val 0 ∧ (s2 l).val 0 ≤ 65535 := gate_num (bytes_p1 hb) (by decide)
  have cw : IntKind.u16.wrap ((s2 l).val 0) = (s2 l).val 0 := by rw [IntKind.wrap_u16]; omega
  by_cases h4 : (s1 l).val 0 = 4
  · exact ⟨_, _, _, fin4 l h4, rfl, fun w h => rf4 g R l _ _ _ _ _ _ _ _ _ w h (Lib.hid H1) (Lib.hid rfl) (Lib.hid N1) (Lib.hid H2) cw (Lib.hid h4)⟩
  · have H3 : Rd g R 52 #[.pointer (some ⟨g, 0, none⟩)] (s2 l).err (s2 l).rst (.agg (nm ((s3 l).val M.zero8))) (s3 l).err (s3 l).rst := fun W hW => name_is g R _ _ (s3 l) W hW (Lib.hid rfl)
    have N3 : Nd g R 3 ((s3 l).val M.zero8 != M.zero8) (s3 l).err (s3 l).rst (p3 l).1 (p3 l).2 := fun W hW => need_is _ 3 g R _ _ (p3 l) W hW (by decide) (Lib.hid rfl)
    have H4 : Rd g R 46 #[.pointer (some ⟨g, 0, none⟩)] (p3 l).1 (p3 l).2 (.int .u8 ((s4 l).val 0)) (s4 l).err (s4 l).rst := fun W hW => byte_is g R _ _ (s4 l) W hW (Lib.hid rfl)
    have N4 : Nd g R 2 (decide ((s4 l).val 0 < 16)) (s4 l).err (s4 l).rst (p4 l).1 (p4 l).2 := fun W hW => need_is _ 2 g R _ _ (p4 l) W hW (by decide) (Lib.hid rfl)
    by_cases h1 : (s1 l).val 0 = 1
    · have H5 : Rd g R 48 #[.pointer (some ⟨g, 0, none⟩), .int .u64 4294967295] (p4 l).1 (p4 l).2 (.int .u64 ((s5 l).val 0)) (s5 l).err (s5 l).rst := fun W hW => num_is g R _ 4294967295 _ (s5 l) W hW (Lib.hid rfl)
      have N5 : Nd g R 3 (decide (0 < (s5 l).val 0)) (s5 l).err (s5 l).rst (p5 l).1 (p5 l).2 := fun W hW => need_is _ 3 g R _ _ (p5 l) W hW (by decide) (Lib.hid rfl)
      have qr : 0 ≤ (s5 l).val 0 ∧ (s5 l).val 0 ≤ 4294967295 := gate_num (bytes_p4 hb) (by decide)
      have qw : IntKind.u32.wrap ((s5 l).val 0) = (s5 l).val 0 := by rw [IntKind.wrap_u32]; omega
      exact ⟨_, _, _, fin1 l h1 qr.1, s3_len l, fun w h => rf1 g R l _ _ _ _ _ _ _ _ _ _ _ _ _ _ _ _ _ _ _ _ _ _ _ _ _ w h (Lib.hid H1) (Lib.hid rfl) (Lib.hid N1) (Lib.hid H2) cw (Lib.hid H3) (Lib.hid (s3_len l)) (Lib.hid rfl) (Lib.hid N3) (Lib.hid H4) (Lib.hid N4) (Lib.hid H5) qw (Lib.hid N5) (Lib.hid h4) (Lib.hid h1)⟩
    · exact ⟨_, _, _, fin2 l h4 h1, s3_len l, fun w h => rf2 g R l _ _ _ _ _ _ _ _ _ _ _ _ _ _ _ _ _ _ _ _ w h (Lib.hid H1) (Lib.hid rfl) (Lib.hid N1) (Lib.hid H2) cw (Lib.hid H3) (Lib.hid (s3_len l)) (Lib.hid rfl) (Lib.hid N3) (Lib.hid H4) (Lib.hid N4) (Lib.hid h4) (Lib.hid h1)⟩
set_option maxRecDepth 100000 in
theorem read_bad (g : Nat) (R : Option Nat) (l l' : List Int) (k : Ky) (e : Int) (w : World) (h : CurAt w g R 0 l) (ML : Hid (k.m.length = 8)) (HR : Hid (∀ W, CurAt W g R 0 l → Calls Tryz.prog 45 #[.pointer (some ⟨g, 0, none⟩), failF g] W (ReadsK W g R k e l'))) (he : ¬ e = 0) :
    Calls Tryz.prog 25 #[.pointer (some ⟨g, 0, none⟩)] w (ReadsK w g R kzero e l') := by
  have hz := zero27
  have GZ := Lib.hid (h.far (Nat.le_refl w.heap.size)).1
  have RZ := Lib.hid (h.far (Nat.le_refl w.heap.size)).2
  have ZG := Lib.hid GZ.out.symm
  have R0 := Lib.hid (blk_alloc w 27 kzero.cells)
  have C0 := Lib.hid (h.alloc (.cells kzero.cells.toArray 27))
  have O0 := Lib.hid ((Only.refl g w).alloc (.cells kzero.cells.toArray 27))
  clear h
  go_enter Tryz.func25, Tryz.ntmps25
  go_wp2_with fail
  refine (HR.out _ C0.out).mono ?_
  rintro rr w1 ⟨rfl, hc, ho⟩
  have G1 := Lib.hid (hc.far (Nat.le_refl w1.heap.size)).1
  have Q1 := Lib.hid (hc.far (Nat.le_refl w1.heap.size)).2
  have C1 := Lib.hid (hc.alloc (.cells kzero.cells.toArray 27))
  have K1 := Lib.hid (blk_alloc w1 27 kzero.cells)
  have L1 := Lib.hid (R0.out.only ho ZG.out).lt
  have R1 := Lib.hid ((R0.out.only ho ZG.out).alloc (.cells kzero.cells.toArray 27))
  have O1 := Lib.hid ((O0.out.trans ho).alloc (.cells kzero.cells.toArray 27))
  have S1 := Lib.hid (Nat.le_of_lt L1.out)
  clear hc ho
  go_wp2_with (refine wpList_store_ky rfl _ _ rfl w1.heap.size kzero k rfl rfl K1.out rfl ML.out ?_; intro w2 K2 OS; have C2 := Lib.hid (C1.out.only OS.out G1.out Q1.out); have R2 := Lib.hid (R1.out.only OS.out (Nat.ne_of_lt L1.out)); have O2 := Lib.hid (O1.out.new OS.out S1.out); clear OS)
  refine (curErrK_is g R e l' _ C2.out).mono ?_
  rintro rr w3 ⟨rfl, rfl⟩
  go_wp2_with (first
    | refine wpList_build rfl 27 _ rfl [] rfl _ built27_0 ?_
    | (refine wpList_store_ky rfl _ _ rfl w.heap.size kzero kzero rfl rfl R2.out rfl rfl ?_; intro wz KZ OZ))
  refine bodyPost_ret (results_ky rfl _ _ w.heap.size kzero rfl KZ.out rfl) rfl ?_
  exact ⟨rfl, C2.out.only OZ.out GZ.out RZ.out, O2.out.new OZ.out (Nat.le_refl _)⟩
set_option maxRecDepth 100000 in
theorem read_ok (g : Nat) (R : Option Nat) (l l' : List Int) (k : Ky) (e : Int) (w : World) (h : CurAt w g R 0 l) (ML : Hid (k.m.length = 8)) (HR : Hid (∀ W, CurAt W g R 0 l → Calls Tryz.prog 45 #[.pointer (some ⟨g, 0, none⟩), failF g] W (ReadsK W g R k e l'))) (he : e = 0) :
    Calls Tryz.prog 25 #[.pointer (some ⟨g, 0, none⟩)] w (ReadsK w g R k e l') := by
  have hz := zero27
  have GZ := Lib.hid (h.far (Nat.le_refl w.heap.size)).1
  have RZ := Lib.hid (h.far (Nat.le_refl w.heap.size)).2
  have ZG := Lib.hid GZ.out.symm
  have R0 := Lib.hid (blk_alloc w 27 kzero.cells)
  have C0 := Lib.hid (h.alloc (.cells kzero.cells.toArray 27))
  have O0 := Lib.hid ((Only.refl g w).alloc (.cells kzero.cells.toArray 27))
  clear h
  go_enter Tryz.func25, Tryz.ntmps25
  go_wp2_with fail
  refine (HR.out _ C0.out).mono ?_
  rintro rr w1 ⟨rfl, hc, ho⟩
  have G1 := Lib.hid (hc.far (Nat.le_refl w1.heap.size)).1
  have Q1 := Lib.hid (hc.far (Nat.le_refl w1.heap.size)).2
  have C1 := Lib.hid (hc.alloc (.cells kzero.cells.toArray 27))
  have K1 := Lib.hid (blk_alloc w1 27 kzero.cells)
  have L1 := Lib.hid (R0.out.only ho ZG.out).lt
  have R1 := Lib.hid ((R0.out.only ho ZG.out).alloc (.cells kzero.cells.toArray 27))
  have O1 := Lib.hid ((O0.out.trans ho).alloc (.cells kzero.cells.toArray 27))
  have S1 := Lib.hid (Nat.le_of_lt L1.out)
  clear hc ho
  go_wp2_with (refine wpList_store_ky rfl _ _ rfl w1.heap.size kzero k rfl rfl K1.out rfl ML.out ?_; intro w2 K2 OS; have C2 := Lib.hid (C1.out.only OS.out G1.out Q1.out); have R2 := Lib.hid (R1.out.only OS.out (Nat.ne_of_lt L1.out)); have O2 := Lib.hid (O1.out.new OS.out S1.out); clear OS)
  refine (curErrK_is g R e l' _ C2.out).mono ?_
  rintro rr w3 ⟨rfl, rfl⟩
  subst he
  go_wp2_with (first
    | refine wpList_load_ky rfl _ rfl w1.heap.size 0 k rfl K2.out.range ML.out ?_
    | (refine wpList_store_ky rfl _ _ rfl w.heap.size kzero k rfl rfl R2.out rfl ML.out ?_; intro wz KZ OZ))
  refine bodyPost_ret (results_ky rfl _ _ w.heap.size k rfl KZ.out ML.out) rfl ?_
  exact ⟨rfl, C2.out.only OZ.out GZ.out RZ.out, O2.out.new OZ.out (Nat.le_refl _)⟩
theorem curLeftK_is (g : Nat) (R : Option Nat) (e : Int) (l : List Int) (w : World) (h : CurAt w g R e l) :
    Calls Tryz.prog 15 #[.pointer (some ⟨g, 0, none⟩)] w fun r w' => r = .returned (.int .i64 l.length) ∧ w = w' := by
  obtain ⟨v, lv, hc, hl, h1, h2⟩ := h
  by_cases he : e = 0
  · subst he
    obtain rfl := h1 rfl
    exact left_ok g R v lv w hc
  · obtain rfl := h2 he
    exact left_bad g e v w hc.1 he
theorem kread_is (g : Nat) (R : Option Nat) (l : List Int) (w : World) (h : CurAt w g R 0 l) :
    Calls Tryz.prog 25 #[.pointer (some ⟨g, 0, none⟩)] w (ReadsK w g R ((rKey l).val kzero) (rKey l).err (rKey l).rst) := by
  obtain ⟨k, e', l', hf, hm, hr⟩ := readFields_is g R l h.bytes
  have he : e' = (rKey l).err := hf.err
  have hl : l' = (rKey l).rst := hf.rst
  by_cases h0 : e' = 0
  · have hk := hf.val h0
    rw [← he, ← hl, ← hk]
    exact read_ok g R l l' k e' w h (Lib.hid hm) (Lib.hid hr) h0
  · have hk : (rKey l).val kzero = kzero := by
      cases hq : rKey l with
      | bad e => rfl
      | got k r => rw [hq] at he; exact absurd he h0
    rw [← he, ← hl, hk]
    exact read_bad g R l l' k e' w h (Lib.hid hm) (Lib.hid hr) h0
end Go.Proofs.YteggjihhjdeieaaGreat
