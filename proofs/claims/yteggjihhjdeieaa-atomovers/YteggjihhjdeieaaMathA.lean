/- Atoms as numbers: validity, stamps, the order of values, encoding; no program in this text. -/
import Derived.Test.YteggjihhjdeieaaMathK
namespace Go.Proofs.Yteggjihhjdeieaa

/-- A value: what its fields hold. -/
structure Vl where
  n : Int
  t : List Int
deriving DecidableEq
structure Vl.Ok (v : Vl) : Prop where
  tl : v.t.length = 8
  tb : M.Bytes v.t
  n0 : 0 ≤ v.n
  n1 : v.n < 18446744073709551616
/-- An atom: its key and its value. -/
structure Am where
  k : Ky
  v : Vl
deriving DecidableEq
structure Am.Ok (a : Am) : Prop where
  k : a.k.Ok
  v : a.v.Ok
def vzero : Vl := ⟨0, M.zero8⟩
def azero : Am := ⟨kzero, vzero⟩
theorem vzero_ok : vzero.Ok := ⟨rfl, zero8_bytes, by decide, by decide⟩
theorem azero_ok : azero.Ok := ⟨kzero_ok, vzero_ok⟩
/-- Which value is over the other. -/
def over (x y : Vl) : Bool := if x.n = y.n then decide (M.num y.t ≤ M.num x.t) else decide (y.n < x.n)
def more (x y : Vl) : Vl := if over x y = true then x else y
theorem more_ok {x y : Vl} (hx : x.Ok) (hy : y.Ok) : (more x y).Ok := by unfold more; split <;> assumption
theorem over_self (x : Vl) : over x x = true := by unfold over; simp
theorem over_total (x y : Vl) (h : over x y = false) : over y x = true := by
  unfold over at *
  by_cases e : x.n = y.n
  · rw [if_pos e] at h; rw [if_pos e.symm]
    have := of_decide_eq_false h
    exact decide_eq_true (by omega)
  · rw [if_neg e] at h; rw [if_neg (fun q => e q.symm)]
    have := of_decide_eq_false h
    exact decide_eq_true (by omega)
theorem over_trans {x y z : Vl} (h : over x y = true) (k : over y z = true) : over x z = true := by
  unfold over at *
  by_cases e : x.n = y.n
  · rw [if_pos e] at h
    have h := of_decide_eq_true h
    by_cases f : y.n = z.n
    · rw [if_pos f] at k; rw [if_pos (e.trans f)]
      have k := of_decide_eq_true k
      exact decide_eq_true (by omega)
    · rw [if_neg f] at k; rw [if_neg (by omega)]
      have k := of_decide_eq_true k
      exact decide_eq_true (by omega)
  · rw [if_neg e] at h
    have h := of_decide_eq_true h
    by_cases f : y.n = z.n
    · rw [if_neg (by omega)]
      exact decide_eq_true (by omega)
    · rw [if_neg f] at k
      have k := of_decide_eq_true k
      rw [if_neg (by omega)]
      exact decide_eq_true (by omega)
theorem over_anti {x y : Vl} (hx : x.Ok) (hy : y.Ok) (h : over x y = true) (k : over y x = true) : x = y := by
  unfold over at *
  by_cases e : x.n = y.n
  · rw [if_pos e] at h; rw [if_pos e.symm] at k
    have h := of_decide_eq_true h
    have k := of_decide_eq_true k
    have ht := M.num_inj x.t y.t hx.tb hy.tb (by rw [hx.tl, hy.tl]) (by omega)
    obtain ⟨n, t⟩ := x
    obtain ⟨n', t'⟩ := y
    simp only at e ht
    rw [e, ht]
  · rw [if_neg e] at h; rw [if_neg (fun q => e q.symm)] at k
    have h := of_decide_eq_true h
    have k := of_decide_eq_true k
    omega
theorem over_both {x y : Vl} (hx : x.Ok) (hy : y.Ok) : (over x y && over y x) = decide (x = y) := by
  by_cases e : x = y
  · subst e; rw [over_self]; simp
  · rw [decide_eq_false e]
    cases h : over x y with
    | false => rfl
    | true =>
      cases k : over y x with
      | false => rfl
      | true => exact absurd (over_anti hx hy h k) e
theorem over_more_l (x y : Vl) : over (more x y) x = true := by
  unfold more; split
  · exact over_self x
  · next h => exact over_total x y (by simpa using h)
theorem over_more_r (x y : Vl) : over (more x y) y = true := by
  unfold more; split
  · next h => exact h
  · exact over_self y
theorem more_one (x y : Vl) : more x y = x ∨ more x y = y := by unfold more; split <;> simp
/-- A stamp: a number above a replica. -/
def stampB (x : Int) : Bool := decide (x < 1099511627776) && (decide (0 < x / 256 % 4294967296) && decide (x % 256 < 16))
def betweenB (lo hi : Int) (v : Vl) : Bool := (decide (lo ≤ v.n) && decide (v.n ≤ hi)) && !(v.t != M.zero8)
def lineB (v : Vl) : Bool := stampB v.n && (M.rightB v.t || !(v.t != M.zero8))
/-- Which values there are for a sort. -/
def valB (s : Int) (v : Vl) : Bool := if s = 1 then betweenB 1 2 v else if s = 4 then lineB v else betweenB 1 4294967295 v
def Am.right (a : Am) : Bool := a.k.right && valB a.k.s a.v
theorem right_sort {k : Ky} (h : k.right = true) : k.s = 1 ∨ k.s = 2 ∨ k.s = 3 ∨ k.s = 4 := by
  rcases right_cases h with ⟨h, _⟩ | ⟨h, _⟩
  · omega
  · omega
/-- A value as bytes, behind a key of its sort. -/
def venc (s : Int) (v : Vl) : List Int := if s = 1 then [v.n] else if s = 4 then M.var v.n ++ (((M.text v.t).length : Int) :: M.text v.t) else M.var v.n
def aenc (a : Am) : List Int := kenc a.k ++ venc a.k.s a.v
/-- What Bytes answers. -/
def abytes (a : Am) : List Int := if a.right = true then aenc a else []
/-- What the reads of a value come to. -/
def rVal (s : Int) (l : List Int) : M.Got Vl :=
  if s = 1 then
    match M.rByte l with
    | .bad e => .bad e
    | .got c r => if c = 1 ∨ c = 2 then .got ⟨c, M.zero8⟩ r else .bad 3
  else if s = 4 then
    match M.rNum 1099511627775 l with
    | .bad e => .bad e
    | .got x r =>
      if 16 ≤ x % 256 then .bad 2 else
      if x / 256 = 0 then .bad 3 else
      match M.rName r with
      | .bad e => .bad e
      | .got m r' => .got ⟨x, m⟩ r'
  else
    match M.rNum 4294967295 l with
    | .bad e => .bad e
    | .got x r => if x = 0 then .bad 3 else .got ⟨x, M.zero8⟩ r
def rAtom (l : List Int) : M.Got Am :=
  match rKey l with
  | .bad e => .bad e
  | .got k r =>
    match rVal k.s r with
    | .bad e => .bad e
    | .got v r' => .got ⟨k, v⟩ r'
theorem stamp_parts {x : Int} (h0 : 0 ≤ x) (h : stampB x = true) : x ≤ 1099511627775 ∧ ¬ 16 ≤ x % 256 ∧ ¬ x / 256 = 0 := by
  unfold stampB at h
  simp only [Bool.and_eq_true, decide_eq_true_eq] at h
  omega
theorem between_parts {lo hi : Int} {v : Vl} (h : betweenB lo hi v = true) : lo ≤ v.n ∧ v.n ≤ hi ∧ v.t = M.zero8 := by
  unfold betweenB at h
  simp at h
  exact ⟨h.1.1, h.1.2, h.2⟩
theorem rVal_back {s : Int} {v : Vl} (h : v.Ok) (hr : valB s v = true) (more : List Int) : rVal s (venc s v ++ more) = .got v more := by
  unfold rVal venc
  unfold valB at hr
  have n0 := h.n0
  have n1 := h.n1
  by_cases h1 : s = 1
  · rw [if_pos h1, if_pos h1]
    rw [if_pos h1] at hr
    obtain ⟨a, b, c⟩ := between_parts hr
    have e : M.rByte ([v.n] ++ more) = .got v.n more := rfl
    rw [e]
    simp only
    rw [if_pos (by omega), ← c]
  · rw [if_neg h1, if_neg h1]
    rw [if_neg h1] at hr
    by_cases h4 : s = 4
    · rw [if_pos h4, if_pos h4]
      rw [if_pos h4] at hr
      unfold lineB at hr
      rw [Bool.and_eq_true] at hr
      obtain ⟨a, b, c⟩ := stamp_parts n0 hr.1
      rw [List.append_assoc, M.rNum_var v.n 1099511627775 _ n0 n1 a]
      simp only
      rw [if_neg b, if_neg c, M.rName_back v.t more h.tl (by have q := hr.2; simp at q; exact q.symm)]
    · rw [if_neg h4, if_neg h4]
      rw [if_neg h4] at hr
      obtain ⟨a, b, c⟩ := between_parts hr
      rw [M.rNum_var v.n 4294967295 more n0 n1 b]
      simp only
      rw [if_neg (by omega), ← c]
theorem rAtom_back {a : Am} (h : a.Ok) (hr : a.right = true) (more : List Int) : rAtom (aenc a ++ more) = .got a more := by
  unfold Am.right at hr
  rw [Bool.and_eq_true] at hr
  unfold rAtom aenc
  rw [List.append_assoc, rKey_back h.k hr.1]
  simp only
  rw [rVal_back h.v hr.2]
theorem rKey_sort {l r : List Int} {k : Ky} (h : rKey l = .got k r) : k.s = 1 ∨ k.s = 2 ∨ k.s = 3 ∨ k.s = 4 := by
  unfold rKey at h
  split at h
  · cases h
  · split at h
    · cases h
    · next s l1 _ hs =>
      split at h
      · cases h
      · split at h
        · cases h; right; right; right; rfl
        · next h4 =>
          split at h
          · cases h
          · split at h
            · cases h
            · split at h
              · cases h
              · split at h
                · cases h
                · split at h
                  · split at h
                    · cases h
                    · split at h
                      · cases h
                      · cases h; left; rfl
                  · cases h; simp only; omega
theorem kenc_bytes {k : Ky} (h : k.Ok) : M.Bytes (kenc k) := by
  have q := h.s0; have q := h.s1; have q := h.r0; have q := h.r1
  have one : ∀ x : Int, 0 ≤ x → x < 256 → M.Bytes [x] := fun x a b y hy => by obtain rfl := List.mem_singleton.1 hy; exact ⟨a, b⟩
  unfold kenc
  refine (one _ h.s0 h.s1).app ((M.var_bytes _ h.c0).app ?_)
  split
  · intro x hx; cases hx
  · have ht := M.text_len k.m
    have hm := h.ml
    refine M.Bytes.app (l := ((M.text k.m).length : Int) :: M.text k.m) ?_ ((one _ h.r0 h.r1).app ?_)
    · intro y hy
      rcases List.mem_cons.1 hy with rfl | hy
      · omega
      · exact M.text_bytes h.mb y hy
    · split
      · exact M.var_bytes _ h.q0
      · intro x hx; cases hx
theorem kenc_len {k : Ky} (h : k.Ok) : (kenc k).length ≤ 31 := by
  have a := M.var_ten k.c h.c0 (by have := h.c1; omega)
  have b := M.var_ten k.q h.q0 (by have := h.q1; omega)
  have ht := M.text_len k.m
  have hm := h.ml
  unfold kenc
  split
  · simp; omega
  · split <;> simp <;> omega
theorem venc_len {s : Int} {v : Vl} (h : v.Ok) : (venc s v).length ≤ 19 := by
  have a := M.var_ten v.n h.n0 h.n1
  have ht := M.text_len v.t
  have hm := h.tl
  unfold venc
  split
  · simp
  · split
    · simp; omega
    · omega
theorem aenc_len {a : Am} (h : a.Ok) : (aenc a).length ≤ 50 := by
  have := kenc_len h.k
  have := venc_len (s := a.k.s) h.v
  unfold aenc
  rw [List.length_append]; omega
theorem abytes_len {a : Am} (h : a.Ok) : (abytes a).length ≤ 50 := by
  unfold abytes; split
  · exact aenc_len h
  · simp
/-- Stamp and Unstamp. -/
def stamp (n r : Int) : Int := n * 256 + r
theorem stamp_hi {n r : Int} (h0 : 0 ≤ n) (h1 : n < 4294967296) (h2 : 0 ≤ r) (h3 : r < 256) : stamp n r / 256 % 4294967296 = n := by unfold stamp; omega
theorem stamp_lo {n r : Int} (h2 : 0 ≤ r) (h3 : r < 256) : stamp n r % 256 = r := by unfold stamp; omega
theorem stamp_back {x : Int} (h0 : 0 ≤ x) : (stamp (x / 256 % 4294967296) (x % 256) = x) ↔ x < 1099511627776 := by unfold stamp; omega
end Go.Proofs.Yteggjihhjdeieaa
