/- No program in it: vectors as lists of numbers: joins, meets, comparisons. -/
import Derived.Test.YtihkncnhkljgpaaMathN
namespace Go.Proofs.Ytihkncnhkljgpaa

def mx (x y : Int) : Int := if x < y then y else x
def mn (x y : Int) : Int := if y < x then y else x
def vz : List Int := [0, 0, 0, 0, 0, 0, 0, 0, 0, 0, 0, 0, 0, 0, 0, 0]
def vj (a b : List Int) : List Int := List.zipWith mx a b
def vm (a b : List Int) : List Int := List.zipWith mn a b
def vle (a b : List Int) : Bool := vj a b == b
def vcmp (a b : List Int) : Int := if (a == b) = true then 0 else if vle a b = true then 1 else if vle b a = true then 2 else 3
structure VOk (l : List Int) : Prop where
  len : l.length = 16
  rg : ∀ x ∈ l, 0 ≤ x ∧ x < 4294967296
theorem vz_len : vz.length = 16 := rfl
theorem vz_ok : VOk vz := ⟨rfl, fun x hx => by simp only [vz, List.mem_cons, List.not_mem_nil, or_false, or_self] at hx; omega⟩
theorem zip_len {f : Int → Int → Int} {a b : List Int} (ha : a.length = 16) (hb : b.length = 16) : (List.zipWith f a b).length = 16 := by rw [List.length_zipWith, ha, hb]; rfl
theorem vj_len {a b : List Int} (ha : a.length = 16) (hb : b.length = 16) : (vj a b).length = 16 := zip_len ha hb
theorem vm_len {a b : List Int} (ha : a.length = 16) (hb : b.length = 16) : (vm a b).length = 16 := zip_len ha hb
theorem zip_ok {f : Int → Int → Int} (hf : ∀ x y, f x y = x ∨ f x y = y) {a b : List Int} (ha : VOk a) (hb : VOk b) : VOk (List.zipWith f a b) := by
  refine ⟨zip_len ha.len hb.len, fun x hx => ?_⟩
  obtain ⟨i, hi, rfl⟩ := List.getElem_of_mem hx
  rw [List.length_zipWith] at hi
  rw [List.getElem_zipWith]
  rcases hf (a[i]'(by omega)) (b[i]'(by omega)) with h | h
  · rw [h]; exact ha.rg _ (List.getElem_mem _)
  · rw [h]; exact hb.rg _ (List.getElem_mem _)
theorem mx_or (x y : Int) : mx x y = x ∨ mx x y = y := by unfold mx; split <;> simp
theorem mn_or (x y : Int) : mn x y = x ∨ mn x y = y := by unfold mn; split <;> simp
theorem vj_ok {a b : List Int} (ha : VOk a) (hb : VOk b) : VOk (vj a b) := zip_ok mx_or ha hb
theorem vm_ok {a b : List Int} (ha : VOk a) (hb : VOk b) : VOk (vm a b) := zip_ok mn_or ha hb
/-- What stands while one list is turned into another, place by place. -/
def turnL (z a : List Int) (k : Nat) : List Int := z.take k ++ a.drop k
theorem turnL_zero (z a : List Int) : turnL z a 0 = a := rfl
theorem turnL_all {z a : List Int} {k : Nat} (hz : z.length ≤ k) (ha : a.length ≤ k) : turnL z a k = z := by
  unfold turnL; rw [List.take_of_length_le hz, List.drop_eq_nil_of_le ha, List.append_nil]
theorem turnL_len {z a : List Int} (h : z.length = a.length) (k : Nat) : (turnL z a k).length = a.length := by
  unfold turnL; rw [List.length_append, List.length_take, List.length_drop]; omega
theorem turnL_at {z a : List Int} (h : z.length = a.length) {k : Nat} (hk : k < a.length) : (turnL z a k)[k]? = some a[k] := by
  unfold turnL
  rw [List.getElem?_append_right (by rw [List.length_take]; omega), List.length_take, Nat.min_eq_left (by omega), Nat.sub_self, List.getElem?_drop, Nat.add_zero, List.getElem?_eq_getElem hk]
theorem turnL_set {z a : List Int} (h : z.length = a.length) {k : Nat} (hk : k < a.length) : (turnL z a k).set k (z[k]'(by omega)) = turnL z a (k + 1) := by
  apply List.ext_getElem?
  intro i
  unfold turnL
  by_cases hi : i < k
  · rw [List.getElem?_set_ne (by omega), List.getElem?_append_left (by rw [List.length_take]; omega), List.getElem?_append_left (by rw [List.length_take]; omega), List.getElem?_take, List.getElem?_take, if_pos hi, if_pos (by omega)]
  · by_cases he : i = k
    · subst he
      rw [List.getElem?_set_self (by rw [List.length_append, List.length_take, List.length_drop]; omega), List.getElem?_append_left (by rw [List.length_take]; omega), List.getElem?_take, if_pos (by omega), List.getElem?_eq_getElem]
    · rw [List.getElem?_set_ne (by omega), List.getElem?_append_right (by rw [List.length_take]; omega), List.getElem?_append_right (by rw [List.length_take]; omega), List.length_take, List.length_take, List.getElem?_drop, List.getElem?_drop]
      congr 1; omega
theorem turnL_keep {z a : List Int} (h : z.length = a.length) {k : Nat} (hk : k < a.length) (he : z[k]'(by omega) = a[k]) : turnL z a k = turnL z a (k + 1) := by
  rw [← turnL_set h hk, he]
  apply List.ext_getElem?
  intro i
  by_cases hi : i = k
  · subst hi
    rw [turnL_at h hk, List.getElem?_set_self (by rw [turnL_len h]; exact hk)]
  · rw [List.getElem?_set_ne (by omega)]
/-- One place is turned: what lay there, what lies there in the other list, what stands behind it. -/
theorem zip_step (f : Int → Int → Int) {a b : List Int} (ha : a.length = 16) (hb : b.length = 16) {k : Nat} (hk : k < 16) :
    ∃ x y, (turnL (List.zipWith f a b) a k)[k]? = some x ∧ b[k]? = some y ∧ (turnL (List.zipWith f a b) a k).set k (f x y) = turnL (List.zipWith f a b) a (k + 1) ∧ (f x y = x → turnL (List.zipWith f a b) a k = turnL (List.zipWith f a b) a (k + 1)) := by
  have hl := (zip_len (f := f) ha hb).trans ha.symm
  have hka : k < a.length := by omega
  have hz : (List.zipWith f a b)[k]'(by omega) = f a[k] (b[k]'(by omega)) := by rw [List.getElem_zipWith]
  refine ⟨a[k], b[k]'(by omega), turnL_at hl hka, List.getElem?_eq_getElem (by omega), ?_, fun h => turnL_keep hl hka (hz.trans h)⟩
  rw [← hz]
  exact turnL_set hl hka
theorem zip_done (f : Int → Int → Int) {a b : List Int} (ha : a.length = 16) (hb : b.length = 16) : turnL (List.zipWith f a b) a 16 = List.zipWith f a b := turnL_all (by rw [zip_len ha hb]; omega) (by omega)
end Go.Proofs.Ytihkncnhkljgpaa
