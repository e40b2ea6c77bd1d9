/- No program in it: vectors as lists of numbers: joins, meets, comparisons. No program in it: the vector of a state. -/
import Derived.Test.YtdigbipfchgjmaaGreatMathN
import Derived.Test.YtdigbipfchgjmaaGreatMathL
namespace Go.Proofs.YtdigbipfchgjmaaGreat

def mx (x y : Int) : Int := if x < y then y else x
def mn (x y : Int) : Int := if y < x then y else x
def vz : List Int := [0, 0, 0, 0, 0, 0, 0, 0, 0, 0, 0, 0, 0, 0, 0, 0]
def vj (a b : List Int) : List Int := List.zipWith mx a b
def vm (a b : List Int) : List Int := List.zipWith mn a b
def vle (a b : List Int) : Bool := vj a b == b
def vcmp (a b : List Int) : Int := if (a == b) = true then 0 else if vle a b = true then 1 else if vle b a = true then 2 else 3
structure VOk (l : List Int) : Prop where
  len : l.length = 16
  rg : ∀ x ∈ l, 0 ≤ x ∧ x < 4294967296
theorem vz_len : vz.length = 16 := rfl
theorem vz_ok : VOk vz := ⟨rfl, fun x hx => by simp only [vz, List.mem_cons, List.not_mem_nil, or_false, or_self] at hx; omega⟩
theorem zip_len {f : Int → Int → Int} {a b : List Int} (ha : a.length = 16) (hb : b.length = 16) : (List.zipWith f a b).length = 16 := by rw [List.length_zipWith, ha, hb]; rfl
theorem vj_len {a b : List Int} (ha : a.length = 16) (hb : b.length = 16) : (vj a b).length = 16 := zip_len ha hb
theorem vm_len {a b : List Int} (ha : a.length = 16) (hb : b.length = 16) : (vm a b).length = 16 := zip_len ha hb
theorem zip_ok {f : Int → Int → Int} (hf : ∀ x y, f x y = x ∨ f x y = y) {a b : List Int} (ha : VOk a) (hb : VOk b) : VOk (List.zipWith f a b) := by
  refine ⟨zip_len ha.len hb.len, fun x hx => ?_⟩
  obtain ⟨i, hi, rfl⟩ := List.getElem_of_mem hx
  rw [List.length_zipWith] at hi
  rw [List.getElem_zipWith]
  rcases hf (a[i]'(by omega)) (b[i]'(by omega)) with h | h
  · rw [h]; exact ha.rg _ (List.getElem_mem _)
  · rw [h]; exact hb.rg _ (List.getElem_mem _)
theorem mx_or (x y : Int) : mx x y = x ∨ mx x y = y := by unfold mx; split <;> simp
theorem mn_or (x y : Int) : mn x y = x ∨ mn x y = y := by unfold mn; split <;> simp
theorem vj_ok {a b : List Int} (ha : VOk a) (hb : VOk b) : VOk (vj a b) := zip_ok mx_or ha hb
theorem vm_ok {a b : List Int} (ha : VOk a) (hb : VOk b) : VOk (vm a b) := zip_ok mn_or ha hb
/-- What stands while one list is turned into another, place by place. -/
def turnL (z a : List Int) (k : Nat) : List Int := z.take k ++ a.drop k
theorem turnL_zero (z a : List Int) : turnL z a 0 = a := rfl
theorem turnL_all {z a : List Int} {k : Nat} (hz : z.length ≤ k) (ha : a.length ≤ k) : turnL z a k = z := by
  unfold turnL; rw [List.take_of_length_le hz, List.drop_eq_nil_of_le ha, List.append_nil]
theorem turnL_len {z a : List Int} (h : z.length = a.length) (k : Nat) : (turnL z a k).length = a.length := by
  unfold turnL; rw [List.length_append, List.length_take, List.length_drop]; omega
theorem turnL_at {z a : List Int} (h : z.length = a.length) {k : Nat} (hk : k < a.length) : (turnL z a k)[k]? = some a[k] := by
  unfold turnL
  rw [List.getElem?_append_right (by rw [List.length_take]; omega), List.length_take, Nat.min_eq_left (by omega), Nat.sub_self, List.getElem?_drop, Nat.add_zero, List.getElem?_eq_getElem hk]
theorem turnL_set {z a : List Int} (h : z.length = a.length) {k : Nat} (hk : k < a.length) : (turnL z a k).set k (z[k]'(by omega)) = turnL z a (k + 1) := by
  apply List.ext_getElem?
  intro i
  unfold turnL
  by_cases hi : i < k
  · rw [List.getElem?_set_ne (by omega), List.getElem?_append_left (by rw [List.length_take]; omega), List.getElem?_append_left (by rw [List.length_take]; omega), List.getElem?_take, List.getElem?_take, if_pos hi, if_pos (by omega)]
  · by_cases he : i = k
    · subst he
      rw [List.getElem?_set_self (by rw [List.length_append, List.length_take, List.length_drop]; omega), List.getElem?_append_left (by rw [List.length_take]; omega), List.getElem?_take, if_pos (by omega), List.getElem?_eq_getElem]
    · rw [List.getElem?_set_ne (by omega), List.getElem?_append_right (by rw [List.length_take]; omega), List.getElem?_append_right (by rw [List.length_take]; omega), List.length_take, List.length_take, List.getElem?_drop, List.getElem?_drop]
      congr 1; omega
theorem turnL_keep {z a : List Int} (h : z.length = a.length) {k : Nat} (hk : k < a.length) (he : z[k]'(by omega) = a[k]) : turnL z a k = turnL z a (k + 1) := by
  rw [← turnL_set h hk, he]
  apply List.ext_getElem?
  intro i
  by_cases hi : i = k
  · subst hi
    rw [turnL_at h hk, List.getElem?_set_self (by rw [turnL_len h]; exact hk)]
  · rw [List.getElem?_set_ne (by omega)]
/-- One place is turned: what lay there, what lies there in the other list, what stands behind it. -/
theorem zip_step (f : Int → Int → Int) {a b : List Int} (ha : a.length = 16) (hb : b.length = 16) {k : Nat} (hk : k < 16) :
    ∃ x y, (turnL (List.zipWith f a b) a k)[k]? = some x ∧ b[k]? = some y ∧ (turnL (List.zipWith f a b) a k).set k (f x y) = turnL (List.zipWith f a b) a (k + 1) ∧ (f x y = x → turnL (List.zipWith f a b) a k = turnL (List.zipWith f a b) a (k + 1)) := by
  have hl := (zip_len (f := f) ha hb).trans ha.symm
  have hka : k < a.length := by omega
  have hz : (List.zipWith f a b)[k]'(by omega) = f a[k] (b[k]'(by omega)) := by rw [List.getElem_zipWith]
  refine ⟨a[k], b[k]'(by omega), turnL_at hl hka, List.getElem?_eq_getElem (by omega), ?_, fun h => turnL_keep hl hka (hz.trans h)⟩
  rw [← hz]
  exact turnL_set hl hka
theorem zip_done (f : Int → Int → Int) {a b : List Int} (ha : a.length = 16) (hb : b.length = 16) : turnL (List.zipWith f a b) a 16 = List.zipWith f a b := turnL_all (by rw [zip_len ha hb]; omega) (by omega)
end Go.Proofs.YtdigbipfchgjmaaGreat
namespace Go.Proofs.YtdigbipfchgjmaaGreat

/-- A key's dot counts in a vector. -/
def vup (v : List Int) (k : Ky) : List Int := if k.s = 1 then v.set k.r.toNat (mx (v.getD k.r.toNat 0) k.q) else v
def vof (s : List Am) : List Int := s.foldl (fun v x => vup v x.k) vz
theorem vof_snoc (s : List Am) (x : Am) : vof (s ++ [x]) = vup (vof s) x.k := List.foldl_append ..
theorem vup_len (v : List Int) (k : Ky) : (vup v k).length = v.length := by
  unfold vup; split
  · rw [List.length_set]
  · rfl
theorem fold_len : ∀ (s : List Am) (v : List Int), (s.foldl (fun v x => vup v x.k) v).length = v.length
  | [], _ => rfl
  | x :: s, v => by rw [List.foldl_cons, fold_len s, vup_len]
theorem vof_len (s : List Am) : (vof s).length = 16 := fold_len s vz
theorem mx_ge (n x y : Int) : n ≤ mx x y ↔ n ≤ x ∨ n ≤ y := by unfold mx; split <;> omega
theorem vup_ge (v : List Int) (k : Ky) (i : Nat) (hi : i < v.length) (n : Int) : n ≤ (vup v k).getD i 0 ↔ n ≤ v.getD i 0 ∨ (k.s = 1 ∧ k.r.toNat = i ∧ n ≤ k.q) := by
  unfold vup
  by_cases h : k.s = 1
  · rw [if_pos h]
    by_cases hr : k.r.toNat = i
    · subst hr
      rw [List.getD_eq_getElem?_getD (l := v.set _ _), List.getElem?_set_self hi, Option.getD_some, mx_ge]
      simp [h]
    · rw [List.getD_eq_getElem?_getD, List.getElem?_set_ne hr, ← List.getD_eq_getElem?_getD]
      simp [hr]
  · rw [if_neg h]; simp [h]
theorem fold_ge : ∀ (s : List Am) (v : List Int) (i : Nat) (_ : i < v.length) (n : Int),
    n ≤ (s.foldl (fun v x => vup v x.k) v).getD i 0 ↔ n ≤ v.getD i 0 ∨ ∃ x ∈ s, x.k.s = 1 ∧ x.k.r.toNat = i ∧ n ≤ x.k.q
  | [], v, i, _, n => by simp
  | x :: s, v, i, hi, n => by
    rw [List.foldl_cons, fold_ge s _ i (by rw [vup_len]; exact hi), vup_ge v x.k i hi]
    simp only [List.mem_cons, exists_eq_or_imp]
    rw [or_assoc]
theorem vz_at (i : Nat) (h : i < 16) : vz.getD i 0 = 0 := by
  have : ∀ i : Fin 16, vz.getD i.val 0 = 0 := by decide
  exact this ⟨i, h⟩
theorem vof_ge (s : List Am) (i : Nat) (hi : i < 16) (n : Int) : n ≤ (vof s).getD i 0 ↔ n ≤ 0 ∨ ∃ x ∈ s, x.k.s = 1 ∧ x.k.r.toNat = i ∧ n ≤ x.k.q := by
  unfold vof; rw [fold_ge s vz i hi, vz_at i hi]
theorem getD_at {l : List Int} {i : Nat} (h : i < l.length) : l.getD i 0 = l[i] := by rw [List.getD_eq_getElem?_getD, List.getElem?_eq_getElem h, Option.getD_some]
theorem vj_at {a b : List Int} (ha : a.length = 16) (hb : b.length = 16) (i : Nat) (hi : i < 16) : (vj a b).getD i 0 = mx (a.getD i 0) (b.getD i 0) := by
  rw [getD_at (by rw [vj_len ha hb]; exact hi), getD_at (by omega), getD_at (by omega)]
  unfold vj; rw [List.getElem_zipWith]
theorem v_ext {a b : List Int} (ha : a.length = 16) (hb : b.length = 16) (h : ∀ i, i < 16 → ∀ n, n ≤ a.getD i 0 ↔ n ≤ b.getD i 0) : a = b := by
  apply List.ext_getElem (by omega)
  intro i h1 h2
  rw [← getD_at h1, ← getD_at h2]
  have e := h i (by omega)
  have e1 := (e (a.getD i 0)).1 (Int.le_refl _)
  have e2 := (e (b.getD i 0)).2 (Int.le_refl _)
  omega
def keyIn (s : List Am) (k : Ky) : Prop := ∃ x ∈ s, x.k = k
theorem keyIn_rk {s : List Am} (h : St s) (k : Ky) : keyIn s k ↔ 0 ≤ rk (fnd s k) := by
  constructor
  · rintro ⟨x, hx, rfl⟩
    rw [fnd_of_mem h hx]
    exact rn_pos (h.ok x hx).v
  · intro hk
    cases hf : fnd s k with
    | none => rw [hf] at hk; exact absurd hk (by simp [rk])
    | some v => exact ⟨⟨k, v⟩, fnd_mem hf, rfl⟩
theorem keyIn_join {a b : List Am} (ha : OkR a) (hb : OkR b) (k : Ky) : keyIn (join a b) k ↔ keyIn (norm a) k ∨ keyIn (norm b) k := by
  rw [keyIn_rk (join_st ha hb), keyIn_rk (norm_st ha), keyIn_rk (norm_st hb), fnd_norm ha, fnd_norm hb]
  have : rk (fnd (join a b) k) = max (rk (gt a k)) (rk (gt b k)) := by rw [← gt_st (join_st ha hb), rk_join ha hb]
  rw [this]; omega
theorem vof_key (s : List Am) (i : Nat) (hi : i < 16) (n : Int) : n ≤ (vof s).getD i 0 ↔ n ≤ 0 ∨ ∃ k, keyIn s k ∧ k.s = 1 ∧ k.r.toNat = i ∧ n ≤ k.q := by
  rw [vof_ge s i hi]
  refine or_congr_right ⟨?_, ?_⟩
  · rintro ⟨x, hx, h⟩; exact ⟨x.k, ⟨x, hx, rfl⟩, h⟩
  · rintro ⟨k, ⟨x, hx, rfl⟩, h⟩; exact ⟨x, hx, h⟩
theorem vof_join {a b : List Am} (ha : OkR a) (hb : OkR b) : vof (join a b) = vj (vof (norm a)) (vof (norm b)) := by
  refine v_ext (vof_len _) (vj_len (vof_len _) (vof_len _)) fun i hi n => ?_
  rw [vj_at (vof_len _) (vof_len _) i hi, mx_ge, vof_key _ i hi, vof_key _ i hi, vof_key _ i hi]
  constructor
  · rintro (h | ⟨k, hk, h⟩)
    · exact .inl (.inl h)
    · rcases (keyIn_join ha hb k).1 hk with h1 | h1
      · exact .inl (.inr ⟨k, h1, h⟩)
      · exact .inr (.inr ⟨k, h1, h⟩)
  · rintro ((h | ⟨k, hk, h⟩) | (h | ⟨k, hk, h⟩))
    · exact .inl h
    · exact .inr ⟨k, (keyIn_join ha hb k).2 (.inl hk), h⟩
    · exact .inl h
    · exact .inr ⟨k, (keyIn_join ha hb k).2 (.inr hk), h⟩
theorem vup_ok {v : List Int} {k : Ky} (h : VOk v) (hk : 0 ≤ k.q ∧ k.q < 4294967296) : VOk (vup v k) := by
  refine ⟨by rw [vup_len]; exact h.len, fun x hx => ?_⟩
  unfold vup at hx
  split at hx
  · rcases List.mem_or_eq_of_mem_set hx with h1 | h1
    · exact h.rg x h1
    · by_cases hr : k.r.toNat < v.length
      · have h2 := h.rg (v.getD k.r.toNat 0) (by rw [getD_at hr]; exact List.getElem_mem _)
        rcases mx_or (v.getD k.r.toNat 0) k.q with h3 | h3 <;> rw [h1, h3] <;> omega
      · rw [List.set_eq_of_length_le (by omega)] at hx
        exact h.rg x hx
  · exact h.rg x hx
/-- What a tag of a state says. -/
theorem tag_rep {s : List Am} (h : St s) {x : Am} (hx : x ∈ s) (h1 : x.k.s = 1) : x.k.r.toNat < 16 ∧ x.k.r = (x.k.r.toNat : Int) := by
  have hr := h.rt x hx
  have ho := (h.ok x hx).k
  unfold Am.right Ky.right at hr
  rw [if_pos h1] at hr
  simp only [Bool.and_eq_true, decide_eq_true_eq] at hr
  have := ho.r0
  omega

/-! Bounds. -/
theorem vm_at {a b : List Int} (ha : a.length = 16) (hb : b.length = 16) (i : Nat) (hi : i < 16) : (vm a b).getD i 0 = mn (a.getD i 0) (b.getD i 0) := by
  rw [getD_at (by rw [vm_len ha hb]; exact hi), getD_at (by omega), getD_at (by omega)]
  unfold vm; rw [List.getElem_zipWith]
theorem vle_iff {a b : List Int} (ha : a.length = 16) (hb : b.length = 16) : vle a b = true ↔ ∀ i, i < 16 → a.getD i 0 ≤ b.getD i 0 := by
  unfold vle
  rw [beq_iff_eq]
  constructor
  · intro h i hi
    have := vj_at ha hb i hi
    rw [h] at this
    rw [this]; unfold mx; split <;> omega
  · intro h
    refine v_ext (vj_len ha hb) hb fun i hi n => ?_
    rw [vj_at ha hb i hi]
    have := h i hi
    unfold mx; split <;> omega
section
variable {a b z : List Int} (ha : a.length = 16) (hb : b.length = 16) (hz : z.length = 16)
include ha hb
theorem le_j1 : vle a (vj a b) = true := (vle_iff ha (vj_len ha hb)).2 fun i hi => by rw [vj_at ha hb i hi]; unfold mx; split <;> omega
theorem le_j2 : vle b (vj a b) = true := (vle_iff hb (vj_len ha hb)).2 fun i hi => by rw [vj_at ha hb i hi]; unfold mx; split <;> omega
theorem m_le1 : vle (vm a b) a = true := (vle_iff (vm_len ha hb) ha).2 fun i hi => by rw [vm_at ha hb i hi]; unfold mn; split <;> omega
theorem m_le2 : vle (vm a b) b = true := (vle_iff (vm_len ha hb) hb).2 fun i hi => by rw [vm_at ha hb i hi]; unfold mn; split <;> omega
include hz
theorem j_le (h1 : vle a z = true) (h2 : vle b z = true) : vle (vj a b) z = true := (vle_iff (vj_len ha hb) hz).2 fun i hi => by
  have e1 := (vle_iff ha hz).1 h1 i hi
  have e2 := (vle_iff hb hz).1 h2 i hi
  rw [vj_at ha hb i hi]; unfold mx; split <;> omega
theorem le_m (h1 : vle z a = true) (h2 : vle z b = true) : vle z (vm a b) = true := (vle_iff hz (vm_len ha hb)).2 fun i hi => by
  have e1 := (vle_iff hz ha).1 h1 i hi
  have e2 := (vle_iff hz hb).1 h2 i hi
  rw [vm_at ha hb i hi]; unfold mn; split <;> omega
end
theorem more_cmp {x : List Int} (hx : x.length = 16) {k : Nat} (hk : k < 16) : vcmp (x.set k (x.getD k 0 + 1)) x = 2 := by
  have hl : (x.set k (x.getD k 0 + 1)).length = 16 := by rw [List.length_set]; exact hx
  have hg : ∀ i, i < 16 → (x.set k (x.getD k 0 + 1)).getD i 0 = if i = k then x.getD k 0 + 1 else x.getD i 0 := fun i hi => by
    rw [List.getD_eq_getElem?_getD]
    by_cases h : i = k
    · subst h
      rw [if_pos rfl, List.getElem?_set_self (by omega), Option.getD_some]
    · rw [if_neg h, List.getElem?_set_ne (by omega), ← List.getD_eq_getElem?_getD]
  have n1 : vle (x.set k (x.getD k 0 + 1)) x = false := by
    rw [← Bool.not_eq_true, vle_iff hl hx]
    intro h
    have := h k hk
    rw [hg k hk, if_pos rfl] at this
    omega
  have n2 : vle x (x.set k (x.getD k 0 + 1)) = true := (vle_iff hx hl).2 fun i hi => by
    rw [hg i hi]
    by_cases h : i = k
    · subst h; rw [if_pos rfl]; omega
    · rw [if_neg h]; omega
  have n3 : (x.set k (x.getD k 0 + 1) == x) = false := by
    rw [← Bool.not_eq_true, beq_iff_eq]
    intro h
    have := hg k hk
    rw [h, if_pos rfl] at this
    omega
  unfold vcmp
  rw [n1, n2, n3]
  rfl
end Go.Proofs.YtdigbipfchgjmaaGreat
