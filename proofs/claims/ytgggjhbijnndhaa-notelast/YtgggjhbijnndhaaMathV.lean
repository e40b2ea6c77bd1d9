/- No program in it: vectors as lists of numbers: joins, meets, comparisons. No program in it: the vector of a state. No program in it: vectors as lists of numbers: joins, meets, comparisons. No program in it: the vector of a state. Tags of rows, no program in it: tags of an item, those that are there, items that are present, what is added and dropped, and the laws of joining them. No program in it: notes of carts: the key of a note, the note of a cart in a state, what is written, and the laws of joining it. -/
import Derived.Test.YtgggjhbijnndhaaMathN
import Derived.Test.YtgggjhbijnndhaaMathL
namespace Go.Proofs.Ytgggjhbijnndhaa

def mx (x y : Int) : Int := if x < y then y else x
def mn (x y : Int) : Int := if y < x then y else x
def vz : List Int := [0, 0, 0, 0, 0, 0, 0, 0, 0, 0, 0, 0, 0, 0, 0, 0]
def vj (a b : List Int) : List Int := List.zipWith mx a b
def vm (a b : List Int) : List Int := List.zipWith mn a b
def vle (a b : List Int) : Bool := vj a b == b
def vcmp (a b : List Int) : Int := if (a == b) = true then 0 else if vle a b = true then 1 else if vle b a = true then 2 else 3
structure VOk (l : List Int) : Prop where
  len : l.length = 16
  rg : ∀ x ∈ l, 0 ≤ x ∧ x < 4294967296
theorem vz_len : vz.length = 16 := rfl
theorem vz_ok : VOk vz := ⟨rfl, fun x hx => by simp only [vz, List.mem_cons, List.not_mem_nil, or_false, or_self] at hx; omega⟩
theorem zip_len {f : Int → Int → Int} {a b : List Int} (ha : a.length = 16) (hb : b.length = 16) : (List.zipWith f a b).length = 16 := by rw [List.length_zipWith, ha, hb]; rfl
theorem vj_len {a b : List Int} (ha : a.length = 16) (hb : b.length = 16) : (vj a b).length = 16 := zip_len ha hb
theorem vm_len {a b : List Int} (ha : a.length = 16) (hb : b.length = 16) : (vm a b).length = 16 := zip_len ha hb
theorem zip_ok {f : Int → Int → Int} (hf : ∀ x y, f x y = x ∨ f x y = y) {a b : List Int} (ha : VOk a) (hb : VOk b) : VOk (List.zipWith f a b) := by
  refine ⟨zip_len ha.len hb.len, fun x hx => ?_⟩
  obtain ⟨i, hi, rfl⟩ := List.getElem_of_mem hx
  rw [List.length_zipWith] at hi
  rw [List.getElem_zipWith]
  rcases hf (a[i]'(by omega)) (b[i]'(by omega)) with h | h
  · rw [h]; exact ha.rg _ (List.getElem_mem _)
  · rw [h]; exact hb.rg _ (List.getElem_mem _)
theorem mx_or (x y : Int) : mx x y = x ∨ mx x y = y := by unfold mx; split <;> simp
theorem mn_or (x y : Int) : mn x y = x ∨ mn x y = y := by unfold mn; split <;> simp
theorem vj_ok {a b : List Int} (ha : VOk a) (hb : VOk b) : VOk (vj a b) := zip_ok mx_or ha hb
theorem vm_ok {a b : List Int} (ha : VOk a) (hb : VOk b) : VOk (vm a b) := zip_ok mn_or ha hb
/-- What stands while one list is turned into another, place by place. -/
def turnL (z a : List Int) (k : Nat) : List Int := z.take k ++ a.drop k
theorem turnL_zero (z a : List Int) : turnL z a 0 = a := rfl
theorem turnL_all {z a : List Int} {k : Nat} (hz : z.length ≤ k) (ha : a.length ≤ k) : turnL z a k = z := by
  unfold turnL; rw [List.take_of_length_le hz, List.drop_eq_nil_of_le ha, List.append_nil]
theorem turnL_len {z a : List Int} (h : z.length = a.length) (k : Nat) : (turnL z a k).length = a.length := by
  unfold turnL; rw [List.length_append, List.length_take, List.length_drop]; omega
theorem turnL_at {z a : List Int} (h : z.length = a.length) {k : Nat} (hk : k < a.length) : (turnL z a k)[k]? = some a[k] := by
  unfold turnL
  rw [List.getElem?_append_right (by rw [List.length_take]; omega), List.length_take, Nat.min_eq_left (by omega), Nat.sub_self, List.getElem?_drop, Nat.add_zero, List.getElem?_eq_getElem hk]
theorem turnL_set {z a : List Int} (h : z.length = a.length) {k : Nat} (hk : k < a.length) : (turnL z a k).set k (z[k]'(by omega)) = turnL z a (k + 1) := by
  apply List.ext_getElem?
  intro i
  unfold turnL
  by_cases hi : i < k
  · rw [List.getElem?_set_ne (by omega), List.getElem?_append_left (by rw [List.length_take]; omega), List.getElem?_append_left (by rw [List.length_take]; omega), List.getElem?_take, List.getElem?_take, if_pos hi, if_pos (by omega)]
  · by_cases he : i = k
    · subst he
      rw [List.getElem?_set_self (by rw [List.length_append, List.length_take, List.length_drop]; omega), List.getElem?_append_left (by rw [List.length_take]; omega), List.getElem?_take, if_pos (by omega), List.getElem?_eq_getElem]
    · rw [List.getElem?_set_ne (by omega), List.getElem?_append_right (by rw [List.length_take]; omega), List.getElem?_append_right (by rw [List.length_take]; omega), List.length_take, List.length_take, List.getElem?_drop, List.getElem?_drop]
      congr 1; omega
theorem turnL_keep {z a : List Int} (h : z.length = a.length) {k : Nat} (hk : k < a.length) (he : z[k]'(by omega) = a[k]) : turnL z a k = turnL z a (k + 1) := by
  rw [← turnL_set h hk, he]
  apply List.ext_getElem?
  intro i
  by_cases hi : i = k
  · subst hi
    rw [turnL_at h hk, List.getElem?_set_self (by rw [turnL_len h]; exact hk)]
  · rw [List.getElem?_set_ne (by omega)]
/-- One place is turned: what lay there, what lies there in the other list, what stands behind it. -/
theorem zip_step (f : Int → Int → Int) {a b : List Int} (ha : a.length = 16) (hb : b.length = 16) {k : Nat} (hk : k < 16) :
    ∃ x y, (turnL (List.zipWith f a b) a k)[k]? = some x ∧ b[k]? = some y ∧ (turnL (List.zipWith f a b) a k).set k (f x y) = turnL (List.zipWith f a b) a (k + 1) ∧ (f x y = x → turnL (List.zipWith f a b) a k = turnL (List.zipWith f a b) a (k + 1)) := by
  have hl := (zip_len (f := f) ha hb).trans ha.symm
  have hka : k < a.length := by omega
  have hz : (List.zipWith f a b)[k]'(by omega) = f a[k] (b[k]'(by omega)) := by rw [List.getElem_zipWith]
  refine ⟨a[k], b[k]'(by omega), turnL_at hl hka, List.getElem?_eq_getElem (by omega), ?_, fun h => turnL_keep hl hka (hz.trans h)⟩
  rw [← hz]
  exact turnL_set hl hka
theorem zip_done (f : Int → Int → Int) {a b : List Int} (ha : a.length = 16) (hb : b.length = 16) : turnL (List.zipWith f a b) a 16 = List.zipWith f a b := turnL_all (by rw [zip_len ha hb]; omega) (by omega)
end Go.Proofs.Ytgggjhbijnndhaa
namespace Go.Proofs.Ytgggjhbijnndhaa

/-- A key's dot counts in a vector. -/
def vup (v : List Int) (k : Ky) : List Int := if k.s = 1 then v.set k.r.toNat (mx (v.getD k.r.toNat 0) k.q) else v
def vof (s : List Am) : List Int := s.foldl (fun v x => vup v x.k) vz
theorem vof_snoc (s : List Am) (x : Am) : vof (s ++ [x]) = vup (vof s) x.k := List.foldl_append ..
theorem vup_len (v : List Int) (k : Ky) : (vup v k).length = v.length := by
  unfold vup; split
  · rw [List.length_set]
  · rfl
theorem fold_len : ∀ (s : List Am) (v : List Int), (s.foldl (fun v x => vup v x.k) v).length = v.length
  | [], _ => rfl
  | x :: s, v => by rw [List.foldl_cons, fold_len s, vup_len]
theorem vof_len (s : List Am) : (vof s).length = 16 := fold_len s vz
theorem mx_ge (n x y : Int) : n ≤ mx x y ↔ n ≤ x ∨ n ≤ y := by unfold mx; split <;> omega
theorem vup_ge (v : List Int) (k : Ky) (i : Nat) (hi : i < v.length) (n : Int) : n ≤ (vup v k).getD i 0 ↔ n ≤ v.getD i 0 ∨ (k.s = 1 ∧ k.r.toNat = i ∧ n ≤ k.q) := by
  unfold vup
  by_cases h : k.s = 1
  · rw [if_pos h]
    by_cases hr : k.r.toNat = i
    · subst hr
      rw [List.getD_eq_getElem?_getD (l := v.set _ _), List.getElem?_set_self hi, Option.getD_some, mx_ge]
      simp [h]
    · rw [List.getD_eq_getElem?_getD, List.getElem?_set_ne hr, ← List.getD_eq_getElem?_getD]
      simp [hr]
  · rw [if_neg h]; simp [h]
theorem fold_ge : ∀ (s : List Am) (v : List Int) (i : Nat) (_ : i < v.length) (n : Int),
    n ≤ (s.foldl (fun v x => vup v x.k) v).getD i 0 ↔ n ≤ v.getD i 0 ∨ ∃ x ∈ s, x.k.s = 1 ∧ x.k.r.toNat = i ∧ n ≤ x.k.q
  | [], v, i, _, n => by simp
  | x :: s, v, i, hi, n => by
    rw [List.foldl_cons, fold_ge s _ i (by rw [vup_len]; exact hi), vup_ge v x.k i hi]
    simp only [List.mem_cons, exists_eq_or_imp]
    rw [or_assoc]
theorem vz_at (i : Nat) (h : i < 16) : vz.getD i 0 = 0 := by
  have : ∀ i : Fin 16, vz.getD i.val 0 = 0 := by decide
  exact this ⟨i, h⟩
theorem vof_ge (s : List Am) (i : Nat) (hi : i < 16) (n : Int) : n ≤ (vof s).getD i 0 ↔ n ≤ 0 ∨ ∃ x ∈ s, x.k.s = 1 ∧ x.k.r.toNat = i ∧ n ≤ x.k.q := by
  unfold vof; rw [fold_ge s vz i hi, vz_at i hi]
theorem getD_at {l : List Int} {i : Nat} (h : i < l.length) : l.getD i 0 = l[i] := by rw [List.getD_eq_getElem?_getD, List.getElem?_eq_getElem h, Option.getD_some]
theorem vj_at {a b : List Int} (ha : a.length = 16) (hb : b.length = 16) (i : Nat) (hi : i < 16) : (vj a b).getD i 0 = mx (a.getD i 0) (b.getD i 0) := by
  rw [getD_at (by rw [vj_len ha hb]; exact hi), getD_at (by omega), getD_at (by omega)]
  unfold vj; rw [List.getElem_zipWith]
theorem v_ext {a b : List Int} (ha : a.length = 16) (hb : b.length = 16) (h : ∀ i, i < 16 → ∀ n, n ≤ a.getD i 0 ↔ n ≤ b.getD i 0) : a = b := by
  apply List.ext_getElem (by omega)
  intro i h1 h2
  rw [← getD_at h1, ← getD_at h2]
  have e := h i (by omega)
  have e1 := (e (a.getD i 0)).1 (Int.le_refl _)
  have e2 := (e (b.getD i 0)).2 (Int.le_refl _)
  omega
def keyIn (s : List Am) (k : Ky) : Prop := ∃ x ∈ s, x.k = k
theorem keyIn_rk {s : List Am} (h : St s) (k : Ky) : keyIn s k ↔ 0 ≤ rk (fnd s k) := by
  constructor
  · rintro ⟨x, hx, rfl⟩
    rw [fnd_of_mem h hx]
    exact rn_pos (h.ok x hx).v
  · intro hk
    cases hf : fnd s k with
    | none => rw [hf] at hk; exact absurd hk (by simp [rk])
    | some v => exact ⟨⟨k, v⟩, fnd_mem hf, rfl⟩
theorem keyIn_join {a b : List Am} (ha : OkR a) (hb : OkR b) (k : Ky) : keyIn (join a b) k ↔ keyIn (norm a) k ∨ keyIn (norm b) k := by
  rw [keyIn_rk (join_st ha hb), keyIn_rk (norm_st ha), keyIn_rk (norm_st hb), fnd_norm ha, fnd_norm hb]
  have : rk (fnd (join a b) k) = max (rk (gt a k)) (rk (gt b k)) := by rw [← gt_st (join_st ha hb), rk_join ha hb]
  rw [this]; omega
theorem vof_key (s : List Am) (i : Nat) (hi : i < 16) (n : Int) : n ≤ (vof s).getD i 0 ↔ n ≤ 0 ∨ ∃ k, keyIn s k ∧ k.s = 1 ∧ k.r.toNat = i ∧ n ≤ k.q := by
  rw [vof_ge s i hi]
  refine or_congr_right ⟨?_, ?_⟩
  · rintro ⟨x, hx, h⟩; exact ⟨x.k, ⟨x, hx, rfl⟩, h⟩
  · rintro ⟨k, ⟨x, hx, rfl⟩, h⟩; exact ⟨x, hx, h⟩
theorem vof_join {a b : List Am} (ha : OkR a) (hb : OkR b) : vof (join a b) = vj (vof (norm a)) (vof (norm b)) := by
  refine v_ext (vof_len _) (vj_len (vof_len _) (vof_len _)) fun i hi n => ?_
  rw [vj_at (vof_len _) (vof_len _) i hi, mx_ge, vof_key _ i hi, vof_key _ i hi, vof_key _ i hi]
  constructor
  · rintro (h | ⟨k, hk, h⟩)
    · exact .inl (.inl h)
    · rcases (keyIn_join ha hb k).1 hk with h1 | h1
      · exact .inl (.inr ⟨k, h1, h⟩)
      · exact .inr (.inr ⟨k, h1, h⟩)
  · rintro ((h | ⟨k, hk, h⟩) | (h | ⟨k, hk, h⟩))
    · exact .inl h
    · exact .inr ⟨k, (keyIn_join ha hb k).2 (.inl hk), h⟩
    · exact .inl h
    · exact .inr ⟨k, (keyIn_join ha hb k).2 (.inr hk), h⟩
theorem vup_ok {v : List Int} {k : Ky} (h : VOk v) (hk : 0 ≤ k.q ∧ k.q < 4294967296) : VOk (vup v k) := by
  refine ⟨by rw [vup_len]; exact h.len, fun x hx => ?_⟩
  unfold vup at hx
  split at hx
  · rcases List.mem_or_eq_of_mem_set hx with h1 | h1
    · exact h.rg x h1
    · by_cases hr : k.r.toNat < v.length
      · have h2 := h.rg (v.getD k.r.toNat 0) (by rw [getD_at hr]; exact List.getElem_mem _)
        rcases mx_or (v.getD k.r.toNat 0) k.q with h3 | h3 <;> rw [h1, h3] <;> omega
      · rw [List.set_eq_of_length_le (by omega)] at hx
        exact h.rg x hx
  · exact h.rg x hx
/-- What a tag of a state says. -/
theorem tag_rep {s : List Am} (h : St s) {x : Am} (hx : x ∈ s) (h1 : x.k.s = 1) : x.k.r.toNat < 16 ∧ x.k.r = (x.k.r.toNat : Int) := by
  have hr := h.rt x hx
  have ho := (h.ok x hx).k
  unfold Am.right Ky.right at hr
  rw [if_pos h1] at hr
  simp only [Bool.and_eq_true, decide_eq_true_eq] at hr
  have := ho.r0
  omega

/-! Bounds. -/
theorem vm_at {a b : List Int} (ha : a.length = 16) (hb : b.length = 16) (i : Nat) (hi : i < 16) : (vm a b).getD i 0 = mn (a.getD i 0) (b.getD i 0) := by
  rw [getD_at (by rw [vm_len ha hb]; exact hi), getD_at (by omega), getD_at (by omega)]
  unfold vm; rw [List.getElem_zipWith]
theorem vle_iff {a b : List Int} (ha : a.length = 16) (hb : b.length = 16) : vle a b = true ↔ ∀ i, i < 16 → a.getD i 0 ≤ b.getD i 0 := by
  unfold vle
  rw [beq_iff_eq]
  constructor
  · intro h i hi
    have := vj_at ha hb i hi
    rw [h] at this
    rw [this]; unfold mx; split <;> omega
  · intro h
    refine v_ext (vj_len ha hb) hb fun i hi n => ?_
    rw [vj_at ha hb i hi]
    have := h i hi
    unfold mx; split <;> omega
section
variable {a b z : List Int} (ha : a.length = 16) (hb : b.length = 16) (hz : z.length = 16)
include ha hb
theorem le_j1 : vle a (vj a b) = true := (vle_iff ha (vj_len ha hb)).2 fun i hi => by rw [vj_at ha hb i hi]; unfold mx; split <;> omega
theorem le_j2 : vle b (vj a b) = true := (vle_iff hb (vj_len ha hb)).2 fun i hi => by rw [vj_at ha hb i hi]; unfold mx; split <;> omega
theorem m_le1 : vle (vm a b) a = true := (vle_iff (vm_len ha hb) ha).2 fun i hi => by rw [vm_at ha hb i hi]; unfold mn; split <;> omega
theorem m_le2 : vle (vm a b) b = true := (vle_iff (vm_len ha hb) hb).2 fun i hi => by rw [vm_at ha hb i hi]; unfold mn; split <;> omega
include hz
theorem j_le (h1 : vle a z = true) (h2 : vle b z = true) : vle (vj a b) z = true := (vle_iff (vj_len ha hb) hz).2 fun i hi => by
  have e1 := (vle_iff ha hz).1 h1 i hi
  have e2 := (vle_iff hb hz).1 h2 i hi
  rw [vj_at ha hb i hi]; unfold mx; split <;> omega
theorem le_m (h1 : vle z a = true) (h2 : vle z b = true) : vle z (vm a b) = true := (vle_iff hz (vm_len ha hb)).2 fun i hi => by
  have e1 := (vle_iff hz ha).1 h1 i hi
  have e2 := (vle_iff hz hb).1 h2 i hi
  rw [vm_at ha hb i hi]; unfold mn; split <;> omega
end
theorem more_cmp {x : List Int} (hx : x.length = 16) {k : Nat} (hk : k < 16) : vcmp (x.set k (x.getD k 0 + 1)) x = 2 := by
  have hl : (x.set k (x.getD k 0 + 1)).length = 16 := by rw [List.length_set]; exact hx
  have hg : ∀ i, i < 16 → (x.set k (x.getD k 0 + 1)).getD i 0 = if i = k then x.getD k 0 + 1 else x.getD i 0 := fun i hi => by
    rw [List.getD_eq_getElem?_getD]
    by_cases h : i = k
    · subst h
      rw [if_pos rfl, List.getElem?_set_self (by omega), Option.getD_some]
    · rw [if_neg h, List.getElem?_set_ne (by omega), ← List.getD_eq_getElem?_getD]
  have n1 : vle (x.set k (x.getD k 0 + 1)) x = false := by
    rw [← Bool.not_eq_true, vle_iff hl hx]
    intro h
    have := h k hk
    rw [hg k hk, if_pos rfl] at this
    omega
  have n2 : vle x (x.set k (x.getD k 0 + 1)) = true := (vle_iff hx hl).2 fun i hi => by
    rw [hg i hi]
    by_cases h : i = k
    · subst h; rw [if_pos rfl]; omega
    · rw [if_neg h]; omega
  have n3 : (x.set k (x.getD k 0 + 1) == x) = false := by
    rw [← Bool.not_eq_true, beq_iff_eq]
    intro h
    have := hg k hk
    rw [h, if_pos rfl] at this
    omega
  unfold vcmp
  rw [n1, n2, n3]
  rfl
end Go.Proofs.Ytgggjhbijnndhaa
namespace Go.Proofs.Ytgggjhbijnndhaa

end Go.Proofs.Ytgggjhbijnndhaa
namespace Go.Proofs.Ytgggjhbijnndhaa


/-! Bounds. -/
end Go.Proofs.Ytgggjhbijnndhaa
namespace Go.Proofs.Ytgggjhbijnndhaa

def there_ : Vl := ⟨1, M.zero8⟩
def gone_ : Vl := ⟨2, M.zero8⟩
theorem there_ok : there_.Ok := ⟨rfl, zero8_bytes, by decide, by decide⟩
theorem gone_ok : gone_.Ok := ⟨rfl, zero8_bytes, by decide, by decide⟩
def pof (c : Int) (m : List Int) : Ky → Vl → Bool := fun k _ => decide (k.c = c) && (k.m == m)
def pin (c : Int) : Ky → Vl → Bool := fun k _ => decide (k.c = c)
def pth (p : Ky → Vl → Bool) : Ky → Vl → Bool := fun k v => decide (v.n = 1) && p k v
def sel (p : Ky → Vl → Bool) (x : Am) : Bool := decide (x.k.s = 1) && p x.k x.v
def pick (p : Ky → Vl → Bool) (s : List Am) : List Ky := (s.filter (sel p)).map (·.k)
theorem pick_nil (p : Ky → Vl → Bool) : pick p [] = [] := rfl
theorem pick_snoc (p : Ky → Vl → Bool) (s : List Am) (x : Am) : pick p (s ++ [x]) = if sel p x = true then pick p s ++ [x.k] else pick p s := by
  unfold pick
  rw [List.filter_append, List.map_append]
  split
  · rename_i h; rw [List.filter_cons_of_pos h]; rfl
  · rename_i h; rw [List.filter_cons_of_neg h]; simp
theorem pick_len (p : Ky → Vl → Bool) (s : List Am) : (pick p s).length ≤ s.length := by
  unfold pick; rw [List.length_map]; exact List.length_filter_le ..
theorem pick_ok {p : Ky → Vl → Bool} {s : List Am} (h : OkR s) : ∀ k ∈ pick p s, k.Ok := fun k hk => by
  obtain ⟨x, hx, rfl⟩ := List.mem_map.1 hk
  exact (h x (List.mem_filter.1 hx).1).k
theorem mem_pick {p : Ky → Vl → Bool} {s : List Am} (h : St s) {k : Ky} : k ∈ pick p s ↔ k.s = 1 ∧ ∃ v, fnd s k = some v ∧ p k v = true := by
  unfold pick
  rw [List.mem_map]
  constructor
  · rintro ⟨x, hx, rfl⟩
    obtain ⟨h1, h2⟩ := List.mem_filter.1 hx
    simp only [sel, Bool.and_eq_true, decide_eq_true_eq] at h2
    exact ⟨h2.1, x.v, fnd_of_mem h h1, h2.2⟩
  · rintro ⟨h1, v, h2, h3⟩
    exact ⟨⟨k, v⟩, List.mem_filter.2 ⟨fnd_mem h2, by simp [sel, h1, h3]⟩, rfl⟩

def seenT (s : List Am) (c : Int) (m : List Int) : List Ky := pick (pof c m) (norm s)
def liveT (s : List Am) (c : Int) (m : List Int) : List Ky := pick (pth (pof c m)) (norm s)
def presT (s : List Am) (c : Int) (m : List Int) : Bool := (norm s).any (sel (pth (pof c m)))
def nubF (out : List (List Int)) (k : Ky) : List (List Int) := if out.contains k.m = true then out else out ++ [k.m]
def nub (l : List Ky) : List (List Int) := l.foldl nubF []
theorem nub_snoc (l : List Ky) (k : Ky) : nub (l ++ [k]) = nubF (nub l) k := List.foldl_append ..
theorem nub_nil : nub [] = [] := rfl
def itemsT (s : List Am) (c : Int) : List (List Int) := nub (pick (pth (pin c)) (norm s))
/-- The reference's way: only the last one is compared. -/
def lastF (out : List (List Int)) (k : Ky) : List (List Int) := if out = [] ∨ out.getD (out.length - 1) [] ≠ k.m then out ++ [k.m] else out
def nubL (l : List Ky) : List (List Int) := l.foldl lastF []
theorem nubL_snoc (l : List Ky) (k : Ky) : nubL (l ++ [k]) = lastF (nubL l) k := List.foldl_append ..
theorem nubF_len (out : List (List Int)) (k : Ky) : (nubF out k).length ≤ out.length + 1 := by unfold nubF; split <;> simp
theorem lastF_len (out : List (List Int)) (k : Ky) : (lastF out k).length ≤ out.length + 1 := by unfold lastF; split <;> simp
theorem nub_len_from : ∀ (l : List Ky) (out : List (List Int)), (l.foldl nubF out).length ≤ out.length + l.length
  | [], _ => by simp
  | k :: l, out => by
    have := nub_len_from l (nubF out k)
    have := nubF_len out k
    simp only [List.foldl_cons, List.length_cons]; omega
theorem nub_len (l : List Ky) : (nub l).length ≤ l.length := by have := nub_len_from l []; simpa [nub] using this
theorem nubL_len_from : ∀ (l : List Ky) (out : List (List Int)), (l.foldl lastF out).length ≤ out.length + l.length
  | [], _ => by simp
  | k :: l, out => by
    have := nubL_len_from l (lastF out k)
    have := lastF_len out k
    simp only [List.foldl_cons, List.length_cons]; omega
theorem nubL_len (l : List Ky) : (nubL l).length ≤ l.length := by have := nubL_len_from l []; simpa [nubL] using this
def NOk (m : List Int) : Prop := m.length = 8 ∧ M.Bytes m
theorem nub_ok_from : ∀ (l : List Ky) (out : List (List Int)), (∀ k ∈ l, k.Ok) → (∀ m ∈ out, NOk m) → ∀ m ∈ l.foldl nubF out, NOk m
  | [], _, _, h => h
  | k :: l, out, hl, h => nub_ok_from l _ (fun x hx => hl x (List.mem_cons_of_mem _ hx)) (fun m hm => by
    unfold nubF at hm
    split at hm
    · exact h m hm
    · rcases List.mem_append.1 hm with h1 | h1
      · exact h m h1
      · rw [List.mem_singleton.1 h1]; have := hl k (List.mem_cons_self ..); exact ⟨this.ml, this.mb⟩)
theorem nub_ok {l : List Ky} (h : ∀ k ∈ l, k.Ok) : ∀ m ∈ nub l, NOk m := nub_ok_from l [] h (fun _ h => by cases h)
theorem nubL_ok_from : ∀ (l : List Ky) (out : List (List Int)), (∀ k ∈ l, k.Ok) → (∀ m ∈ out, NOk m) → ∀ m ∈ l.foldl lastF out, NOk m
  | [], _, _, h => h
  | k :: l, out, hl, h => nubL_ok_from l _ (fun x hx => hl x (List.mem_cons_of_mem _ hx)) (fun m hm => by
    unfold lastF at hm
    split at hm
    · rcases List.mem_append.1 hm with h1 | h1
      · exact h m h1
      · rw [List.mem_singleton.1 h1]; have := hl k (List.mem_cons_self ..); exact ⟨this.ml, this.mb⟩
    · exact h m hm)
theorem nubL_ok {l : List Ky} (h : ∀ k ∈ l, k.Ok) : ∀ m ∈ nubL l, NOk m := nubL_ok_from l [] h (fun _ h => by cases h)
theorem num_eq {a b : List Int} (ha : NOk a) (hb : NOk b) (h : M.num a = M.num b) : a = b := M.num_inj a b ha.2 hb.2 (by rw [ha.1, hb.1]) h
/-- In a state the items of a cart come in the order of their numbers. -/
theorem nub_same : ∀ (l : List Ky) (out : List (List Int)), (∀ k ∈ l, k.Ok) → (∀ o ∈ out, NOk o) → l.Pairwise (fun a b => M.num a.m ≤ M.num b.m) →
    (∀ o ∈ out, ∀ k ∈ l, M.num o ≤ M.num k.m) → (∀ o ∈ out, M.num o ≤ M.num (out.getD (out.length - 1) [])) → l.foldl nubF out = l.foldl lastF out
  | [], _, _, _, _, _, _ => rfl
  | k :: l, out, hl, ho, hp, h1, h2 => by
    have hk := hl k (List.mem_cons_self ..)
    have hko : NOk k.m := ⟨hk.ml, hk.mb⟩
    have e : nubF out k = lastF out k := by
      unfold nubF lastF
      by_cases hc : out.contains k.m = true
      · have hm : k.m ∈ out := by simpa using hc
        have hne : out ≠ [] := fun e => by rw [e] at hm; cases hm
        have hlt : out.length - 1 < out.length := by have := List.length_pos_iff.2 hne; omega
        have hlm : out.getD (out.length - 1) [] ∈ out := by
          simp only [List.getD, List.getElem?_eq_getElem hlt, Option.getD_some]; exact List.getElem_mem _
        have a1 := h2 _ hm
        have a2 := h1 _ hlm k (List.mem_cons_self ..)
        have a3 := num_eq (ho _ hlm) hko (by omega)
        rw [if_pos hc, if_neg (fun h => by rcases h with h | h; exact hne h; exact h a3)]
      · rw [if_neg hc]
        by_cases hne : out = []
        · rw [if_pos (.inl hne)]
        · have hlt : out.length - 1 < out.length := by have := List.length_pos_iff.2 hne; omega
          have hlm : out.getD (out.length - 1) [] ∈ out := by
            simp only [List.getD, List.getElem?_eq_getElem hlt, Option.getD_some]; exact List.getElem_mem _
          rw [if_pos (.inr (fun e => hc (by rw [← e]; simpa using hlm)))]
    rw [List.foldl_cons, List.foldl_cons, e]
    have hp2 := List.pairwise_cons.1 hp
    refine nub_same l _ (fun x hx => hl x (List.mem_cons_of_mem _ hx)) (fun o hm => ?_) hp2.2 (fun o hm x hx => ?_) (fun o hm => ?_)
    · unfold lastF at hm
      split at hm
      · rcases List.mem_append.1 hm with h | h
        · exact ho o h
        · rw [List.mem_singleton.1 h]; exact hko
      · exact ho o hm
    · unfold lastF at hm
      split at hm
      · rcases List.mem_append.1 hm with h | h
        · exact h1 o h x (List.mem_cons_of_mem _ hx)
        · rw [List.mem_singleton.1 h]; exact hp2.1 x hx
      · exact h1 o hm x (List.mem_cons_of_mem _ hx)
    · unfold lastF at hm ⊢
      split at hm
      · rename_i hc
        rw [if_pos hc]
        have e1 : (out ++ [k.m]).getD ((out ++ [k.m]).length - 1) [] = k.m := by simp [List.getD]
        rw [e1]
        rcases List.mem_append.1 hm with h | h
        · exact h1 o h k (List.mem_cons_self ..)
        · rw [List.mem_singleton.1 h]; exact Int.le_refl _
      · rename_i hc
        rw [if_neg hc]
        exact h2 o hm
theorem items_last {s : List Am} (h : OkR s) (c : Int) : itemsT s c = nubL (pick (pth (pin c)) (norm s)) := by
  have hs := norm_st h
  refine nub_same _ [] (pick_ok hs.ok) (fun _ h => (by cases h)) ?_ (fun _ h => (by cases h)) (fun _ h => (by cases h))
  have hf : ((norm s).filter (sel (pth (pin c)))).Pairwise (fun a b => M.num a.k.m ≤ M.num b.k.m) := by
    refine List.Pairwise.imp_of_mem ?_ (List.Pairwise.filter _ hs.so)
    intro a b ha hb hlt
    obtain ⟨a1, a2⟩ := List.mem_filter.1 ha
    obtain ⟨b1, b2⟩ := List.mem_filter.1 hb
    simp only [sel, pth, pin, Bool.and_eq_true, decide_eq_true_eq] at a2 b2
    have r1 := (hs.ok a a1).k.w1r
    have r2 := (hs.ok a a1).k.w2r
    have r3 := (hs.ok b b1).k.w1r
    have r4 := (hs.ok b b1).k.w2r
    unfold Ky.kn at hlt
    have e : a.k.w0 = b.k.w0 := by unfold Ky.w0; rw [a2.1, b2.1, a2.2.2, b2.2.2]
    rw [e] at hlt
    show a.k.w1 ≤ b.k.w1
    omega
  exact List.pairwise_map.2 hf

theorem presT_iff {s : List Am} (h : OkR s) {c : Int} {m : List Int} : presT s c m = true ↔ ∃ k v, k.s = 1 ∧ k.c = c ∧ k.m = m ∧ gt s k = some v ∧ v.n = 1 := by
  have hs := norm_st h
  unfold presT
  rw [List.any_eq_true]
  constructor
  · rintro ⟨x, hx, h1⟩
    simp only [sel, pth, pof, Bool.and_eq_true, decide_eq_true_eq, beq_iff_eq] at h1
    exact ⟨x.k, x.v, h1.1, h1.2.2.1, h1.2.2.2, by rw [← fnd_norm h, fnd_of_mem hs hx], h1.2.1⟩
  · rintro ⟨k, v, h1, h2, h3, h4, h5⟩
    exact ⟨⟨k, v⟩, fnd_mem (by rw [fnd_norm h]; exact h4), by simp [sel, pth, pof, h1, h2, h3, h5]⟩
theorem live_iff {s : List Am} (h : OkR s) {c : Int} {m : List Int} {k : Ky} : k ∈ liveT s c m ↔ k.s = 1 ∧ k.c = c ∧ k.m = m ∧ ∃ v, gt s k = some v ∧ v.n = 1 := by
  unfold liveT
  rw [mem_pick (norm_st h), fnd_norm h]
  simp only [pth, pof, Bool.and_eq_true, decide_eq_true_eq, beq_iff_eq]
  constructor
  · rintro ⟨h1, v, h2, h3, h4, h5⟩; exact ⟨h1, h4, h5, v, h2, h3⟩
  · rintro ⟨h1, h4, h5, v, h2, h3⟩; exact ⟨h1, v, h2, h3, h4, h5⟩
theorem seen_iff {s : List Am} (h : OkR s) {c : Int} {m : List Int} {k : Ky} : k ∈ seenT s c m ↔ k.s = 1 ∧ k.c = c ∧ k.m = m ∧ ∃ v, gt s k = some v := by
  unfold seenT
  rw [mem_pick (norm_st h), fnd_norm h]
  simp only [pof, Bool.and_eq_true, decide_eq_true_eq, beq_iff_eq]
  constructor
  · rintro ⟨h1, v, h2, h4, h5⟩; exact ⟨h1, h4, h5, v, h2⟩
  · rintro ⟨h1, h4, h5, v, h2⟩; exact ⟨h1, v, h2, h4, h5⟩
theorem pres_live {s : List Am} (h : OkR s) (c : Int) (m : List Int) : presT s c m = decide (0 < (liveT s c m).length) := by
  rw [Bool.eq_iff_iff, presT_iff h, decide_eq_true_eq]
  constructor
  · rintro ⟨k, v, h1, h2, h3, h4, h5⟩
    exact List.length_pos_of_mem ((live_iff h).2 ⟨h1, h2, h3, v, h4, h5⟩)
  · intro hp
    obtain ⟨k, hk⟩ := List.exists_mem_of_length_pos hp
    obtain ⟨h1, h2, h3, v, h4, h5⟩ := (live_iff h).1 hk
    exact ⟨k, v, h1, h2, h3, h4, h5⟩
/-- A tag's value is There or Gone. -/
theorem tag_val {s : List Am} (h : OkR s) {k : Ky} {v : Vl} (hk : k.s = 1) (hv : gt s k = some v) : v = there_ ∨ v = gone_ := by
  have hm := fnd_mem (show fnd (norm s) k = some v by rw [fnd_norm h]; exact hv)
  have hr := (norm_st h).rt _ hm
  obtain ⟨n, t⟩ := v
  simp only [Am.right, valB, hk, if_true, betweenB, Bool.and_eq_true, decide_eq_true_eq] at hr
  obtain ⟨_, ⟨h1, h2⟩, h3⟩ := hr
  have e : t = M.zero8 := by simpa using h3
  subst e
  have : n = 1 ∨ n = 2 := by omega
  rcases this with rfl | rfl
  · exact .inl rfl
  · exact .inr rfl
theorem val_there {s : List Am} (h : OkR s) {k : Ky} {v : Vl} (hk : k.s = 1) (hv : gt s k = some v) (hn : v.n = 1) : v = there_ := by
  rcases tag_val h hk hv with e | e
  · exact e
  · subst e; exact absurd hn (by decide)

/-! What is dropped. -/
def dropR (l : List Ky) : List Am := l.map fun k => ⟨k, gone_⟩
def dropT (s : List Am) (c : Int) (m : List Int) : List Am := dropR (liveT s c m)
theorem dropR_snoc (l : List Ky) (k : Ky) : dropR (l ++ [k]) = dropR l ++ [⟨k, gone_⟩] := by unfold dropR; rw [List.map_append]; rfl
theorem dropT_len (s : List Am) (c : Int) (m : List Int) : (dropT s c m).length ≤ (norm s).length := by
  unfold dropT dropR liveT; rw [List.length_map]; exact pick_len _ _
theorem dropT_st {s : List Am} (h : OkR s) (c : Int) (m : List Int) : St (dropT s c m) := by
  have hs := norm_st h
  refine ⟨fun a ha => ?_, fun a ha => ?_, ?_⟩
  · obtain ⟨k, hk, rfl⟩ := List.mem_map.1 ha
    exact ⟨pick_ok hs.ok k hk, gone_ok⟩
  · obtain ⟨k, hk, rfl⟩ := List.mem_map.1 ha
    obtain ⟨x, hx, rfl⟩ := List.mem_map.1 hk
    obtain ⟨h1, h2⟩ := List.mem_filter.1 hx
    simp only [sel, Bool.and_eq_true, decide_eq_true_eq] at h2
    have hr := hs.rt x h1
    simp only [Am.right, Bool.and_eq_true] at hr
    have hb : betweenB 1 2 gone_ = true := by decide
    simp only [Am.right, valB, h2.1, if_true, hb, hr.1, Bool.and_self]
  · have hf : ((norm s).filter (sel (pth (pof c m)))).Pairwise (fun a b => a.k.kn < b.k.kn) := List.Pairwise.filter _ hs.so
    exact List.pairwise_map.2 (List.pairwise_map.2 hf)
theorem gt_drop {s : List Am} (h : OkR s) (c : Int) (m : List Int) (k : Ky) : gt (dropT s c m) k = if k ∈ liveT s c m then some gone_ else none := by
  have hd := dropT_st h c m
  rw [gt_st hd]
  split
  · rename_i hk
    exact (fnd_iff hd).2 (List.mem_map.2 ⟨k, hk, rfl⟩)
  · rename_i hk
    cases e : fnd (dropT s c m) k with
    | none => rfl
    | some v =>
      obtain ⟨k', hk', e2⟩ := List.mem_map.1 (fnd_mem e)
      have : k' = k := congrArg Am.k e2
      rw [this] at hk'
      exact absurd hk' hk
theorem rn_there : there_.rn = 18446744073709551616 := by decide
theorem rn_gone : gone_.rn = 36893488147419103232 := by decide
theorem gt_gone {s : List Am} (h : OkR s) (c : Int) (m : List Int) (k : Ky) : gt (join s (dropT s c m)) k = if k ∈ liveT s c m then some gone_ else gt s k := by
  have hd := dropT_st h c m
  have hj := rk_join h hd.ok k
  rw [gt_drop h] at hj
  refine rk_inj ((gt_ok (join_st h hd.ok).ok).o k) ?_ ?_
  · split
    · exact ok_some gone_ok
    · exact (gt_ok h).o k
  · rw [hj]
    split
    · rename_i hk
      obtain ⟨h1, _, _, v, h4, h5⟩ := (live_iff h).1 hk
      rw [h4, val_there h h1 h4 h5, rk_some, rk_some, rn_there, rn_gone]
      omega
    · rw [rk_none]
      have := rk_ge ((gt_ok h).o k)
      omega
theorem gone_ok' {s : List Am} (h : OkR s) (c : Int) (m : List Int) : OkR (join s (dropT s c m)) := (join_st h (dropT_st h c m).ok).ok
theorem law_gone {s : List Am} (h : OkR s) (c : Int) (m : List Int) : presT (join s (dropT s c m)) c m = false := by
  cases e : presT (join s (dropT s c m)) c m with
  | false => rfl
  | true =>
    obtain ⟨k, v, h1, h2, h3, h4, h5⟩ := (presT_iff (gone_ok' h c m)).1 e
    rw [gt_gone h] at h4
    split at h4
    · cases h4; exact absurd h5 (by decide)
    · rename_i hk
      exact absurd ((live_iff h).2 ⟨h1, h2, h3, v, h4, h5⟩) hk
def unseenT (s more : List Am) (c : Int) (m : List Int) : Bool := (liveT more c m).any fun k => !(seenT s c m).contains k
theorem law_unseen {s more : List Am} (h : OkR s) (hm : OkR more) (c : Int) (m : List Int) : presT (join (join s (dropT s c m)) more) c m = unseenT s more c m := by
  have hg := gone_ok' h c m
  have hj := (join_st hg hm).ok
  rw [Bool.eq_iff_iff, presT_iff hj]
  unfold unseenT
  rw [List.any_eq_true]
  constructor
  · rintro ⟨k, v, h1, h2, h3, h4, h5⟩
    have e := val_there hj h1 h4 h5
    subst e
    have hr := rk_join hg hm k
    rw [h4, gt_gone h, rk_some, rn_there] at hr
    by_cases hk : k ∈ liveT s c m
    · rw [if_pos hk, rk_some, rn_gone] at hr; omega
    · rw [if_neg hk] at hr
      have hns : k ∉ seenT s c m := by
        intro hs
        obtain ⟨_, _, _, v, hv⟩ := (seen_iff h).1 hs
        rcases tag_val h h1 hv with rfl | rfl
        · exact hk ((live_iff h).2 ⟨h1, h2, h3, _, hv, rfl⟩)
        · rw [hv, rk_some, rn_gone] at hr; omega
      have hn : gt s k = none := by
        cases e : gt s k with
        | none => rfl
        | some v => exact absurd ((seen_iff h).2 ⟨h1, h2, h3, v, e⟩) hns
      rw [hn, rk_none] at hr
      refine ⟨k, (live_iff hm).2 ⟨h1, h2, h3, there_, ?_, rfl⟩, by simpa using hns⟩
      refine rk_inj ((gt_ok hm).o k) (ok_some there_ok) ?_
      rw [rk_some, rn_there]
      omega
  · rintro ⟨k, hk, hns⟩
    have hns : k ∉ seenT s c m := by simpa using hns
    obtain ⟨h1, h2, h3, v, h4, h5⟩ := (live_iff hm).1 hk
    have hn : gt s k = none := by
      cases e : gt s k with
      | none => rfl
      | some v => exact absurd ((seen_iff h).2 ⟨h1, h2, h3, v, e⟩) hns
    have hl : k ∉ liveT s c m := fun hl => by
      obtain ⟨_, _, _, v, h6, _⟩ := (live_iff h).1 hl
      rw [hn] at h6; cases h6
    refine ⟨k, v, h1, h2, h3, ?_, h5⟩
    refine rk_inj ((gt_ok hj).o k) (ok_some ((gt_ok hm).o k v h4)) ?_
    rw [rk_join hg hm, gt_gone h, if_neg hl, hn, h4, rk_none]
    have := rk_ge (ok_some ((gt_ok hm).o k v h4))
    omega
/-- What a row says of the tags of a cart decides which items are present. -/
theorem items_ext {s t : List Am} (h : OkR s) (ht : OkR t) {c : Int} (he : ∀ k, k.s = 1 → k.c = c → gt s k = gt t k) : itemsT s c = itemsT t c := by
  have hs := norm_st h
  have hu := norm_st ht
  have e : (norm s).filter (sel (pth (pin c))) = (norm t).filter (sel (pth (pin c))) := by
    refine st_ext (hs.filter _) (hu.filter _) (fun k => ?_)
    by_cases hk : k.s = 1 ∧ k.c = c
    · have e1 : fnd (norm s) k = fnd (norm t) k := by rw [fnd_norm h, fnd_norm ht]; exact he k hk.1 hk.2
      cases e2 : fnd (norm s) k with
      | none => rw [fnd_out hs (fun v e3 => by rw [e2] at e3; cases e3), fnd_out hu (fun v e3 => by rw [← e1, e2] at e3; cases e3)]
      | some v =>
        have e3 : fnd (norm t) k = some v := e1 ▸ e2
        by_cases hn : v.n = 1
        · have hp : sel (pth (pin c)) ⟨k, v⟩ = true := by simp [sel, pth, pin, hk.1, hk.2, hn]
          rw [fnd_yes hs e2 hp, fnd_yes hu e3 hp]
        · have hp : sel (pth (pin c)) ⟨k, v⟩ = false := by simp [sel, pth, hn]
          rw [fnd_out hs (fun u e4 => by rw [e2] at e4; cases e4; exact hp), fnd_out hu (fun u e4 => by rw [e3] at e4; cases e4; exact hp)]
    · have hp : ∀ v, sel (pth (pin c)) ⟨k, v⟩ = false := fun v => by
        cases e4 : sel (pth (pin c)) ⟨k, v⟩ with
        | false => rfl
        | true =>
          simp only [sel, pth, pin, Bool.and_eq_true, decide_eq_true_eq] at e4
          exact absurd ⟨e4.1, e4.2.2⟩ hk
      rw [fnd_out hs (fun v _ => hp v), fnd_out hu (fun v _ => hp v)]
  unfold itemsT pick
  rw [e]
theorem law_others {s : List Am} (h : OkR s) (c : Int) (m : List Int) {c' : Int} (hc : c' ≠ c) : itemsT (join s (dropT s c m)) c' = itemsT s c' :=
  items_ext (gone_ok' h c m) h (fun k _ h2 => by
    rw [gt_gone h, if_neg (fun hl => hc (by rw [← h2]; exact ((live_iff h).1 hl).2.1))])

/-! What is added. -/
def addK (c : Int) (m : List Int) (r q : Int) : Ky := ⟨1, c, m, r, q⟩
def addR (k : Ky) : List Am := [⟨k, there_⟩]
theorem addK_ok {c : Int} {m : List Int} {r q : Int} (hm : NOk m) (hc : 0 ≤ c ∧ c < 65536) (hr : 0 ≤ r ∧ r < 256) (hq : 0 ≤ q ∧ q < 4294967296) : (addK c m r q).Ok :=
  ⟨hm.1, hm.2, (by decide : (0 : Int) ≤ 1), (by decide : (1 : Int) < 256), hc.1, hc.2, hr.1, hr.2, hq.1, hq.2⟩
theorem addR_okR {k : Ky} (hk : k.Ok) : OkR (addR k) := fun a ha => by rw [List.mem_singleton.1 ha]; exact ⟨hk, there_ok⟩
theorem addR_st {c : Int} {m : List Int} {r q : Int} (hk : (addK c m r q).Ok) (hm : M.rightB m = true) (hr : r < 16) (hq : 0 < q) : St (addR (addK c m r q)) :=
  ⟨addR_okR hk, fun a ha => by
    rw [List.mem_singleton.1 ha]
    have hb : betweenB 1 2 there_ = true := by decide
    simp [Am.right, Ky.right, valB, addK, hm, hr, hq, hb], List.pairwise_singleton ..⟩
theorem gt_add {k : Ky} (h : St (addR k)) (x : Ky) : gt (addR k) x = if x = k then some there_ else none := by
  rw [gt_st h]
  unfold addR
  simp only [fnd]
  by_cases e : x = k
  · subst e; simp
  · rw [if_neg e, if_neg (fun e2 => e e2.symm)]
theorem new_none {s : List Am} (h : OkR s) {k : Ky} (hs : k.s = 1) (hr : 0 ≤ k.r ∧ k.r < 16) (hq : k.q = (vof (norm s)).getD k.r.toNat 0 + 1) : gt s k = none := by
  cases e : gt s k with
  | none => rfl
  | some v =>
    have hm := fnd_mem (show fnd (norm s) k = some v by rw [fnd_norm h]; exact e)
    have := (vof_ge (norm s) k.r.toNat (by omega) k.q).2 (.inr ⟨⟨k, v⟩, hm, hs, rfl, Int.le_refl _⟩)
    omega
theorem gt_added {s : List Am} (h : OkR s) {k : Ky} (hk : St (addR k)) (hn : gt s k = none) (x : Ky) : gt (join s (addR k)) x = if x = k then some there_ else gt s x := by
  refine rk_inj ((gt_ok (join_st h hk.ok).ok).o x) ?_ ?_
  · split
    · exact ok_some there_ok
    · exact (gt_ok h).o x
  · rw [rk_join h hk.ok, gt_add hk]
    split
    · rename_i e; subst e; rw [hn, rk_none, rk_some, rn_there]; omega
    · rw [rk_none]; have := rk_ge ((gt_ok h).o x); omega
theorem law_added {s more : List Am} (h : OkR s) (hm : OkR more) {c : Int} {m : List Int} {r q : Int} (hk : St (addR (addK c m r q))) (hn : gt s (addK c m r q) = none) (hh : gt more (addK c m r q) = none) : presT (join (join s (addR (addK c m r q))) more) c m = true := by
  have hg := (join_st h hk.ok).ok
  refine (presT_iff (join_st hg hm).ok).2 ⟨addK c m r q, there_, rfl, rfl, rfl, ?_, rfl⟩
  refine rk_inj ((gt_ok (join_st hg hm).ok).o _) (ok_some there_ok) ?_
  rw [rk_join hg hm, gt_added h hk hn, if_pos rfl, hh, rk_none, rk_some, rn_there]
  omega
theorem law_add_others {s : List Am} (h : OkR s) {c : Int} {m : List Int} {r q : Int} (hk : St (addR (addK c m r q))) (hn : gt s (addK c m r q) = none) {c' : Int} (hc : c' ≠ c) : itemsT (join s (addR (addK c m r q))) c' = itemsT s c' :=
  items_ext (join_st h hk.ok).ok h (fun k _ h2 => by
    rw [gt_added h hk hn, if_neg (fun e => hc (by rw [← h2, e]; rfl))])
end Go.Proofs.Ytgggjhbijnndhaa
namespace Go.Proofs.Ytgggjhbijnndhaa

def noteK (c : Int) : Ky := ⟨4, c, M.zero8, 0, 0⟩
theorem noteK_ok {c : Int} (hc : 0 ≤ c ∧ c < 65536) : (noteK c).Ok :=
  ⟨rfl, zero8_bytes, (by decide : (0 : Int) ≤ 4), (by decide : (4 : Int) < 256), hc.1, hc.2, (by decide : (0 : Int) ≤ 0), (by decide : (0 : Int) < 256), (by decide : (0 : Int) ≤ 0), (by decide : (0 : Int) < 4294967296)⟩
theorem noteK_inj {c d : Int} (h : noteK c = noteK d) : c = d := congrArg Ky.c h
theorem noteK_right (c : Int) : (noteK c).right = true := by simp [Ky.right, noteK]
theorem right_note {k : Ky} (h : k.right = true) : k.s = 4 ↔ k = noteK k.c := by
  constructor
  · intro h4
    unfold Ky.right at h
    rw [if_neg (by omega), if_neg (by omega), if_pos h4] at h
    exact of_decide_eq_true h
  · intro e; rw [e]; rfl
theorem am_right_k {a : Am} (h : a.right = true) : a.k.right = true := by
  unfold Am.right at h
  exact (Bool.and_eq_true _ _ ▸ h).1
theorem am_right_v {a : Am} (h : a.right = true) : valB a.k.s a.v = true := by
  unfold Am.right at h
  exact (Bool.and_eq_true _ _ ▸ h).2

/-- The note of a cart: its value, and what is read out of it. -/
def noteV (s : List Am) (c : Int) : Vl := (gt s (noteK c)).getD vzero
def vnum (v : Vl) : Int := v.n / 256 % 4294967296
def vrep (v : Vl) : Int := v.n % 256
theorem noteV_ok {s : List Am} (h : OkR s) (c : Int) : (noteV s c).Ok := getD_ok ((gt_ok h).o _)
theorem vnum_r (v : Vl) : 0 ≤ vnum v ∧ vnum v < 4294967296 := by unfold vnum; omega
theorem vrep_r (v : Vl) : 0 ≤ vrep v ∧ vrep v < 256 := by unfold vrep; omega
/-- The carts that have one. -/
def notes (s : List Am) : List Int := ((norm s).filter fun x => decide (x.k.s = 4)).map (·.k.c)
def noteP (x : Am) : Bool := decide (x.k = noteK x.k.c)
def notesP (l : List Am) : List Int := (l.filter noteP).map (·.k.c)
theorem notes_eq {s : List Am} (h : OkR s) : notes s = notesP (norm s) := by
  unfold notes notesP
  congr 1
  refine List.filter_congr fun x hx => ?_
  have := right_note (am_right_k ((norm_st h).rt x hx))
  unfold noteP
  simp only [this]

/-- Why nothing is written. -/
def noteE (n rep : Int) (t : List Int) : Int :=
  if 16 ≤ rep ∨ (t ≠ M.zero8 ∧ M.rightB t = false) then 1 else if n = 4294967295 then 8 else 0
def noteN (n rep : Int) : Int := (n + 1) * 256 + rep
def noteA (c n rep : Int) (t : List Int) : Am := ⟨noteK c, ⟨noteN n rep, t⟩⟩
theorem noteE_zero {n rep : Int} {t : List Int} (h : noteE n rep t = 0) : rep < 16 ∧ (t = M.zero8 ∨ M.rightB t = true) ∧ n ≠ 4294967295 := by
  unfold noteE at h
  split at h
  · omega
  · rename_i h1
    split at h
    · omega
    · rename_i h2
      refine ⟨by omega, ?_, h2⟩
      by_cases e : t = M.zero8
      · exact .inl e
      · cases e2 : M.rightB t with
        | true => exact .inr rfl
        | false => exact absurd (.inr ⟨e, e2⟩) h1
theorem noteA_ok {c n rep : Int} {t : List Int} (hc : 0 ≤ c ∧ c < 65536) (hn : 0 ≤ n ∧ n < 4294967295) (hr : 0 ≤ rep ∧ rep < 16) (ht : t.length = 8 ∧ M.Bytes t) : (noteA c n rep t).Ok :=
  ⟨noteK_ok hc, ⟨ht.1, ht.2, by show 0 ≤ (n + 1) * 256 + rep; omega, by show (n + 1) * 256 + rep < 18446744073709551616; omega⟩⟩
theorem noteA_right {c n rep : Int} {t : List Int} (hn : 0 ≤ n ∧ n < 4294967295) (hr : 0 ≤ rep ∧ rep < 16) (ht : t = M.zero8 ∨ M.rightB t = true) : (noteA c n rep t).right = true := by
  have hv : valB 4 ⟨noteN n rep, t⟩ = true := by
    unfold valB
    rw [if_neg (by decide), if_pos rfl]
    unfold lineB stampB noteN
    have h1 : (n + 1) * 256 + rep < 1099511627776 := by omega
    have h2 : 0 < ((n + 1) * 256 + rep) / 256 % 4294967296 := by omega
    have h3 : ((n + 1) * 256 + rep) % 256 < 16 := by omega
    rw [decide_eq_true h1, decide_eq_true h2, decide_eq_true h3]
    rcases ht with rfl | h
    · simp
    · simp [h]
  unfold Am.right
  show ((noteK c).right && valB 4 ⟨noteN n rep, t⟩) = true
  rw [noteK_right, hv]; rfl
theorem one_st {a : Am} (h : a.Ok) (hr : a.right = true) : St [a] :=
  ⟨OkR.cons h okR_nil, fun b hb => by rw [List.mem_singleton.1 hb]; exact hr, List.pairwise_singleton ..⟩
theorem gt_one {a : Am} (h : St [a]) (k : Ky) : gt [a] k = if k = a.k then some a.v else none := by
  rw [gt_st h]
  obtain ⟨ak, av⟩ := a
  simp only [fnd]
  by_cases e : k = ak
  · subst e; simp
  · rw [if_neg e, if_neg (fun e2 => e e2.symm)]
theorem gt_more {s : List Am} (h : OkR s) {a : Am} (ha : St [a]) (hl : rk (gt s a.k) ≤ a.v.rn) (k : Ky) : gt (join s [a]) k = if k = a.k then some a.v else gt s k := by
  have hv : a.v.Ok := (ha.ok.head).v
  refine rk_inj ((gt_ok (join_st h ha.ok).ok).o k) ?_ ?_
  · split
    · exact ok_some hv
    · exact (gt_ok h).o k
  · rw [rk_join h ha.ok, gt_one ha]
    split
    · rename_i e; subst e; rw [rk_some]; omega
    · rw [rk_none]; have := rk_ge ((gt_ok h).o k); omega
theorem note_bound {s : List Am} (h : OkR s) {c : Int} {v : Vl} (hv : gt s (noteK c) = some v) : v.n < 1099511627776 := by
  have hm := fnd_mem (show fnd (norm s) (noteK c) = some v by rw [fnd_norm h]; exact hv)
  have := am_right_v ((norm_st h).rt _ hm)
  have : valB 4 v = true := this
  unfold valB at this
  rw [if_neg (by decide), if_pos rfl] at this
  unfold lineB stampB at this
  simp only [Bool.and_eq_true, decide_eq_true_eq] at this
  exact this.1.1
theorem note_low {s : List Am} (h : OkR s) {c r : Int} {t : List Int} (hr : 0 ≤ r) (ht : t.length = 8 ∧ M.Bytes t) : rk (gt s (noteK c)) < (⟨noteN (vnum (noteV s c)) r, t⟩ : Vl).rn := by
  have h0 := M.num_range t ht.2
  have hN : (⟨noteN (vnum (noteV s c)) r, t⟩ : Vl).rn = ((vnum (noteV s c) + 1) * 256 + r) * 18446744073709551616 + M.num t := rfl
  have hp := vnum_r (noteV s c)
  rw [hN]
  cases e : gt s (noteK c) with
  | none => rw [rk_none]; omega
  | some v =>
    have hb := note_bound h e
    have ho : v.Ok := (gt_ok h).o _ v e
    have h1 := ho.tr
    have h2 : noteV s c = v := by unfold noteV; rw [e]; rfl
    have h3 : vnum (noteV s c) = v.n / 256 := by
      rw [h2]; unfold vnum; have := ho.n0; omega
    rw [rk_some, h3]
    unfold Vl.rn
    have := ho.n0
    have h4 : v.n + 1 ≤ (v.n / 256 + 1) * 256 + r := by omega
    omega
theorem note_st {s : List Am} {c : Int} (hc : 0 ≤ c ∧ c < 65536) {r : Int} {t : List Int} (hr : 0 ≤ r) (ht : t.length = 8 ∧ M.Bytes t) (he : noteE (vnum (noteV s c)) r t = 0) : St [noteA c (vnum (noteV s c)) r t] := by
  obtain ⟨h1, h2, h3⟩ := noteE_zero he
  have hp := vnum_r (noteV s c)
  exact one_st (noteA_ok hc ⟨hp.1, by omega⟩ ⟨hr, h1⟩ ht) (noteA_right ⟨hp.1, by omega⟩ ⟨hr, h1⟩ h2)
theorem gt_noted {s : List Am} (h : OkR s) {c : Int} (hc : 0 ≤ c ∧ c < 65536) {r : Int} {t : List Int} (hr : 0 ≤ r) (ht : t.length = 8 ∧ M.Bytes t) (he : noteE (vnum (noteV s c)) r t = 0) (d : Int) :
    gt (join s [noteA c (vnum (noteV s c)) r t]) (noteK d) = if d = c then some ⟨noteN (vnum (noteV s c)) r, t⟩ else gt s (noteK d) := by
  have h1 := gt_more h (note_st hc hr ht he) (Int.le_of_lt (note_low h hr ht)) (noteK d)
  rw [h1]
  by_cases e : d = c
  · subst e; rw [if_pos rfl, if_pos (show noteK d = (noteA d (vnum (noteV s d)) r t).k from rfl)]; rfl
  · rw [if_neg e, if_neg (show ¬ noteK d = (noteA c (vnum (noteV s c)) r t).k from fun q => e (noteK_inj q))]
section
variable {s : List Am} (h : OkR s) {c : Int} (hc : 0 ≤ c ∧ c < 65536)
include h hc
/-- What is put is the note. -/
theorem law_noted {r : Int} {t : List Int} (hr : 0 ≤ r) (ht : t.length = 8 ∧ M.Bytes t) (he : noteE (vnum (noteV s c)) r t = 0) (d : Int) : noteV (join s [noteA c (vnum (noteV s c)) r t]) d = if d = c then ⟨noteN (vnum (noteV s c)) r, t⟩ else noteV s d := by
  unfold noteV
  have := gt_noted h hc hr ht he d
  unfold noteV at this
  rw [this]
  by_cases e : d = c
  · rw [if_pos e, if_pos e]; rfl
  · rw [if_neg e, if_neg e]
/-- Of two that were put apart the greater replica's counts. -/
theorem law_later {r y : Int} {t u : List Int} (hr : 0 ≤ r) (hy : 0 ≤ y) (ht : t.length = 8 ∧ M.Bytes t) (hu : u.length = 8 ∧ M.Bytes u) (he : noteE (vnum (noteV s c)) r t = 0) (hf : noteE (vnum (noteV s c)) y u = 0) (hne : r ≠ y) :
    noteV (join (join s [noteA c (vnum (noteV s c)) y u]) (join s [noteA c (vnum (noteV s c)) r t])) c = if y < r then ⟨noteN (vnum (noteV s c)) r, t⟩ else ⟨noteN (vnum (noteV s c)) y, u⟩ := by
  have hs := note_st hc hr ht he
  have hs2 := note_st hc hy hu hf
  have hj := (join_st h hs.ok).ok
  have hj2 := (join_st h hs2.ok).ok
  have g1 := gt_noted h hc hr ht he c
  have g2 := gt_noted h hc hy hu hf c
  rw [if_pos rfl] at g1 g2
  have o1 : (⟨noteN (vnum (noteV s c)) r, t⟩ : Vl).Ok := hs.ok.head.v
  have o2 : (⟨noteN (vnum (noteV s c)) y, u⟩ : Vl).Ok := hs2.ok.head.v
  have hg : gt (join (join s [noteA c (vnum (noteV s c)) y u]) (join s [noteA c (vnum (noteV s c)) r t])) (noteK c) = some (if y < r then ⟨noteN (vnum (noteV s c)) r, t⟩ else ⟨noteN (vnum (noteV s c)) y, u⟩) := by
    refine rk_inj ((gt_ok (join_st hj2 hj).ok).o _) (ok_some (by split <;> assumption)) ?_
    rw [rk_join hj2 hj, g1, g2, rk_some, rk_some, rk_some]
    have h1 := o1.tr
    have h2 := o2.tr
    show max (Vl.rn ⟨noteN (vnum (noteV s c)) y, u⟩) (Vl.rn ⟨noteN (vnum (noteV s c)) r, t⟩) = _
    generalize hn : vnum (noteV s c) = n
    have e1 : (⟨noteN n r, t⟩ : Vl).rn = ((n + 1) * 256 + r) * 18446744073709551616 + M.num t := rfl
    have e2 : (⟨noteN n y, u⟩ : Vl).rn = ((n + 1) * 256 + y) * 18446744073709551616 + M.num u := rfl
    have h1' : 0 ≤ M.num t ∧ M.num t < 18446744073709551616 := h1
    have h2' : 0 ≤ M.num u ∧ M.num u < 18446744073709551616 := h2
    split
    · rw [e1, e2]; omega
    · rw [e1, e2]; omega
  unfold noteV at hg ⊢
  rw [hg]; rfl
end
theorem vnum_noteN {n r : Int} {t : List Int} (hn : 0 ≤ n ∧ n < 4294967295) (hr : 0 ≤ r ∧ r < 16) : vnum ⟨noteN n r, t⟩ = n + 1 := by
  show ((n + 1) * 256 + r) / 256 % 4294967296 = n + 1
  omega
theorem vrep_noteN {n r : Int} {t : List Int} (hr : 0 ≤ r ∧ r < 16) : vrep ⟨noteN n r, t⟩ = r := by
  show ((n + 1) * 256 + r) % 256 = r
  omega
end Go.Proofs.Ytgggjhbijnndhaa
