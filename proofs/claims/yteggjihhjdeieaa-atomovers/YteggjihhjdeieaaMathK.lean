/- Keys as numbers: their words, order, validity and encoding; no program in this text. -/
import Derived.Test.YteggjihhjdeieaaMathW
namespace Go.Proofs.Yteggjihhjdeieaa

/-- A key: what its fields hold. -/
structure Ky where
  s : Int
  c : Int
  m : List Int
  r : Int
  q : Int
deriving DecidableEq
structure Ky.Ok (k : Ky) : Prop where
  ml : k.m.length = 8
  mb : M.Bytes k.m
  s0 : 0 ≤ k.s
  s1 : k.s < 256
  c0 : 0 ≤ k.c
  c1 : k.c < 65536
  r0 : 0 ≤ k.r
  r1 : k.r < 256
  q0 : 0 ≤ k.q
  q1 : k.q < 4294967296
def kzero : Ky := ⟨0, 0, M.zero8, 0, 0⟩
theorem zero8_bytes : M.Bytes M.zero8 := fun x hx => by simp [M.zero8] at hx; omega
theorem kzero_ok : kzero.Ok := ⟨rfl, zero8_bytes, by decide, by decide, by decide, by decide, by decide, by decide, by decide, by decide⟩
/-- The words of a key. -/
def Ky.w0 (k : Ky) : Int := k.s * 65536 + k.c
def Ky.w1 (k : Ky) : Int := M.num k.m
def Ky.w2 (k : Ky) : Int := k.r * 4294967296 + k.q
def Ky.right (k : Ky) : Bool :=
  if k.s = 1 then M.rightB k.m && decide (k.r < 16) && decide (0 < k.q)
  else if k.s = 2 ∨ k.s = 3 then M.rightB k.m && decide (k.r < 16) && decide (k.q = 0)
  else if k.s = 4 then decide (k = ⟨4, k.c, M.zero8, 0, 0⟩)
  else false
theorem Ky.Ok.w0r {k : Ky} (h : k.Ok) : 0 ≤ k.w0 ∧ k.w0 < 16777216 := by
  have := h.s0; have := h.s1; have := h.c0; have := h.c1
  unfold Ky.w0; omega
theorem Ky.Ok.w1r {k : Ky} (h : k.Ok) : 0 ≤ k.w1 ∧ k.w1 < 18446744073709551616 := by
  have := M.num_range k.m h.mb
  rw [h.ml] at this
  exact this
theorem Ky.Ok.w2r {k : Ky} (h : k.Ok) : 0 ≤ k.w2 ∧ k.w2 < 1099511627776 := by
  have := h.r0; have := h.r1; have := h.q0; have := h.q1
  unfold Ky.w2; omega
theorem words_inj {a b : Ky} (ha : a.Ok) (hb : b.Ok) (h0 : a.w0 = b.w0) (h1 : a.w1 = b.w1) (h2 : a.w2 = b.w2) : a = b := by
  have hm := M.num_inj a.m b.m ha.mb hb.mb (by rw [ha.ml, hb.ml]) h1
  obtain ⟨s, c, m, r, q⟩ := a
  obtain ⟨s', c', m', r', q'⟩ := b
  have := ha.s0; have := ha.s1; have := ha.c0; have := ha.c1; have := ha.r0; have := ha.r1; have := ha.q0; have := ha.q1
  have := hb.s0; have := hb.s1; have := hb.c0; have := hb.c1; have := hb.r0; have := hb.r1; have := hb.q0; have := hb.q1
  simp only [Ky.w0, Ky.w2] at *
  obtain rfl : s = s' := by omega
  obtain rfl : c = c' := by omega
  obtain rfl : r = r' := by omega
  obtain rfl : q = q' := by omega
  obtain rfl := hm
  rfl
/-- Three words, compared lexicographically. -/
def less3 (a b c x y z : Int) : Bool := if a ≠ x then decide (a < x) else if b ≠ y then decide (b < y) else decide (c < z)
def Ky.less (a b : Ky) : Bool := less3 a.w0 a.w1 a.w2 b.w0 b.w1 b.w2
theorem less3_both {a b c x y z : Int} (h : less3 a b c x y z = true) : less3 x y z a b c = false := by
  unfold less3 at *
  split at h
  · rw [if_pos (fun e => by omega)]; simp only [decide_eq_true_eq] at h; simp; omega
  · split at h
    · rw [if_neg (fun e => by omega), if_pos (fun e => by omega)]; simp only [decide_eq_true_eq] at h; simp; omega
    · rw [if_neg (fun e => by omega), if_neg (fun e => by omega)]; simp only [decide_eq_true_eq] at h; simp; omega
theorem less3_none {a b c x y z : Int} (h : less3 a b c x y z = false) (h' : less3 x y z a b c = false) : a = x ∧ b = y ∧ c = z := by
  unfold less3 at *
  by_cases e : a = x
  · subst e
    rw [if_neg (fun h => h rfl)] at h h'
    by_cases e1 : b = y
    · subst e1
      rw [if_neg (fun h => h rfl)] at h h'
      simp only [decide_eq_false_iff_not] at h h'
      omega
    · rw [if_pos e1] at h
      rw [if_pos (fun e => e1 e.symm)] at h'
      simp only [decide_eq_false_iff_not] at h h'
      omega
  · rw [if_pos e] at h
    rw [if_pos (fun h => e h.symm)] at h'
    simp only [decide_eq_false_iff_not] at h h'
    omega
theorem less3_self (a b c : Int) : less3 a b c a b c = false := by unfold less3; simp
theorem less_total {a b : Ky} (ha : a.Ok) (hb : b.Ok) : (!a.less b && !b.less a) = decide (a = b) := by
  by_cases e : a = b
  · subst e
    unfold Ky.less
    rw [less3_self]
    simp
  · rw [decide_eq_false e]
    cases h1 : a.less b with
    | true => rfl
    | false =>
      cases h2 : b.less a with
      | true => rfl
      | false =>
        obtain ⟨x, y, z⟩ := less3_none h1 h2
        exact absurd (words_inj ha hb x y z) e
theorem less_both {a b : Ky} : (a.less b && b.less a) = false := by
  cases h1 : a.less b with
  | false => rfl
  | true =>
    have : b.less a = false := less3_both h1
    rw [this]; rfl
theorem words_eq {a b : Ky} (ha : a.Ok) (hb : b.Ok) : ((a.w0 == b.w0) && ((a.w1 == b.w1) && (a.w2 == b.w2))) = decide (a = b) := by
  by_cases e : a = b
  · subst e; simp
  · rw [decide_eq_false e]
    cases h : ((a.w0 == b.w0) && ((a.w1 == b.w1) && (a.w2 == b.w2))) with
    | false => rfl
    | true =>
      simp only [Bool.and_eq_true, beq_iff_eq] at h
      exact absurd (words_inj ha hb h.1 h.2.1 h.2.2) e
/-- The name whose number y is, or none. -/
def nameOf (y : Int) : List Int := if M.rightB (M.digits 8 y) = true then M.digits 8 y else M.zero8
/-- The key whose fields are the bits of three words. -/
def kcut (x y z : Int) : Ky := ⟨x / 65536 % 256, x % 65536, nameOf y, z / 4294967296 % 256, z % 4294967296⟩
theorem nameOf_len (y : Int) : (nameOf y).length = 8 := by
  unfold nameOf; split
  · exact M.digits_len 8 y
  · rfl
theorem nameOf_bytes (y : Int) : M.Bytes (nameOf y) := by
  unfold nameOf; split
  · exact M.digits_bytes 8 y
  · exact zero8_bytes
theorem kcut_ok (x y z : Int) : (kcut x y z).Ok := by
  refine ⟨nameOf_len y, nameOf_bytes y, ?_, ?_, ?_, ?_, ?_, ?_, ?_, ?_⟩ <;> simp only [kcut] <;> omega
def same3 (a b c x y z : Int) : Bool := (a == x) && ((b == y) && (c == z))
def fromB (x y z : Int) : Bool := same3 (kcut x y z).w0 (kcut x y z).w1 (kcut x y z).w2 x y z && (kcut x y z).right
def fromK (x y z : Int) : Ky := if fromB x y z = true then kcut x y z else kzero
def fromE (x y z : Int) : Int := if fromB x y z = true then 0 else 3
theorem right_cases {k : Ky} (h : k.right = true) : (k.s = 4 ∧ k.m = M.zero8 ∧ k.r = 0 ∧ k.q = 0) ∨ ((k.s = 1 ∧ 0 < k.q ∨ (k.s = 2 ∨ k.s = 3) ∧ k.q = 0) ∧ M.rightB k.m = true ∧ k.r < 16) := by
  unfold Ky.right at h
  split at h
  · right
    simp only [Bool.and_eq_true, decide_eq_true_eq] at h
    rename_i h1
    exact ⟨.inl ⟨h1, h.2⟩, h.1.1, h.1.2⟩
  · split at h
    · right
      simp only [Bool.and_eq_true, decide_eq_true_eq] at h
      rename_i h1
      exact ⟨.inr ⟨h1, h.2⟩, h.1.1, h.1.2⟩
    · split at h
      · left
        simp only [decide_eq_true_eq] at h
        rename_i h4
        obtain ⟨s, c, m, r, q⟩ := k
        simp only [Ky.mk.injEq] at h
        exact ⟨h4, h.2.2.1, h.2.2.2.1, h.2.2.2.2⟩
      · cases h
theorem cut_words {k : Ky} (h : k.Ok) (hr : k.right = true) : kcut k.w0 k.w1 k.w2 = k := by
  have hm : nameOf k.w1 = k.m := by
    unfold nameOf Ky.w1
    rw [M.digits_num k.m 8 h.ml h.mb]
    rcases right_cases hr with ⟨_, hm, _⟩ | ⟨_, hm, _⟩
    · rw [hm]; split <;> rfl
    · rw [if_pos hm]
  have := h.s0; have := h.s1; have := h.c0; have := h.c1; have := h.r0; have := h.r1; have := h.q0; have := h.q1
  obtain ⟨s, c, m, r, q⟩ := k
  simp only [Ky.w0, Ky.w2] at *
  simp only [kcut, Ky.mk.injEq]
  refine ⟨by omega, by omega, hm, by omega, by omega⟩
theorem from_words {k : Ky} (h : k.Ok) (hr : k.right = true) : fromB k.w0 k.w1 k.w2 = true := by
  unfold fromB
  rw [cut_words h hr, hr]
  simp [same3]
/-- A key as bytes. -/
def kenc (k : Ky) : List Int := [k.s] ++ (M.var k.c ++ (if k.s = 4 then [] else ((M.text k.m).length : Int) :: M.text k.m ++ ([k.r] ++ (if k.s = 1 then M.var k.q else []))))
/-- What the reads of a key come to. -/
def rKey (l : List Int) : M.Got Ky :=
  match M.rByte l with
  | .bad e => .bad e
  | .got s l1 =>
    if s < 1 ∨ 4 < s then .bad 3 else
    match M.rNum 65535 l1 with
    | .bad e => .bad e
    | .got c l2 =>
      if s = 4 then .got ⟨4, c, M.zero8, 0, 0⟩ l2 else
      match M.rName l2 with
      | .bad e => .bad e
      | .got m l3 =>
        if m = M.zero8 then .bad 3 else
        match M.rByte l3 with
        | .bad e => .bad e
        | .got r l4 =>
          if 16 ≤ r then .bad 2 else
          if s = 1 then
            match M.rNum 4294967295 l4 with
            | .bad e => .bad e
            | .got q l5 => if q = 0 then .bad 3 else .got ⟨1, c, m, r, q⟩ l5
          else .got ⟨s, c, m, r, 0⟩ l4
theorem rKey_back {k : Ky} (h : k.Ok) (hr : k.right = true) (more : List Int) : rKey (kenc k ++ more) = .got k more := by
  have e1 : M.rByte (kenc k ++ more) = .got k.s (M.var k.c ++ ((if k.s = 4 then [] else ((M.text k.m).length : Int) :: M.text k.m ++ ([k.r] ++ (if k.s = 1 then M.var k.q else []))) ++ more)) := by
    unfold kenc
    simp only [List.cons_append, List.nil_append, List.append_assoc]
    rfl
  have e2 := M.rNum_var k.c 65535 ((if k.s = 4 then [] else ((M.text k.m).length : Int) :: M.text k.m ++ ([k.r] ++ (if k.s = 1 then M.var k.q else []))) ++ more) h.c0 (by have := h.c1; omega) (by have := h.c1; omega)
  unfold rKey
  rw [e1]
  simp only
  rcases right_cases hr with ⟨h4, hm, hr0, hq0⟩ | ⟨hs, hm, hr16⟩
  · rw [if_neg (by omega), e2]
    simp only
    rw [if_pos h4, if_pos h4]
    obtain ⟨s, c, m, r, q⟩ := k
    simp only at *
    subst h4 hm hr0 hq0
    rfl
  · have n4 : ¬ k.s = 4 := by omega
    rw [if_neg (by omega), e2]
    simp only
    rw [if_neg n4, if_neg n4]
    have e3 := M.rName_back k.m (([k.r] ++ (if k.s = 1 then M.var k.q else [])) ++ more) h.ml (.inr hm)
    rw [List.append_assoc, e3]
    simp only
    have hz : k.m ≠ M.zero8 := by have := M.right_some hm; simpa using this
    rw [if_neg hz]
    have e4 : M.rByte (([k.r] ++ (if k.s = 1 then M.var k.q else [])) ++ more) = .got k.r ((if k.s = 1 then M.var k.q else []) ++ more) := rfl
    rw [e4]
    simp only
    rw [if_neg (by omega)]
    rcases hs with ⟨h1, hq⟩ | ⟨h23, hq⟩
    · rw [if_pos h1, if_pos h1, M.rNum_var k.q 4294967295 more h.q0 (by have := h.q1; omega) (by have := h.q1; omega)]
      simp only
      rw [if_neg (by omega)]
      obtain ⟨s, c, m, r, q⟩ := k
      simp only at *
      subst h1
      rfl
    · have n1 : ¬ k.s = 1 := by omega
      rw [if_neg n1, if_neg n1]
      obtain ⟨s, c, m, r, q⟩ := k
      simp only at *
      subst hq
      rfl
end Go.Proofs.Yteggjihhjdeieaa
