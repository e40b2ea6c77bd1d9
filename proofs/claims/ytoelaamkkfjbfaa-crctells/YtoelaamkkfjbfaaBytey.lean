/- The numbers that bytes are. -/
namespace Go.Proofs.Ytoelaamkkfjbfaa.M

theorem pow_pos (k : Nat) : (0 : Int) < 2 ^ k := by have := Int.pow_pos (n := (2 : Int)) (m := k) (by omega); exact this
theorem pow_add' (a b : Nat) : (2 : Int) ^ (a + b) = 2 ^ a * 2 ^ b := Int.pow_add ..
theorem pow7 (k : Nat) : (2 : Int) ^ (7 * (k + 1)) = 2 ^ (7 * k) * 128 := by rw [Nat.mul_succ, pow_add']; rfl
theorem pow8 (k : Nat) : (2 : Int) ^ (8 * (k + 1)) = 2 ^ (8 * k) * 256 := by rw [Nat.mul_succ, pow_add']; rfl
theorem pow_le {a b : Nat} (h : a ≤ b) : (2 : Int) ^ a ≤ 2 ^ b := by
  obtain ⟨c, rfl⟩ := Nat.exists_eq_add_of_le h
  rw [pow_add']
  have h1 := pow_pos a
  have h2 := pow_pos c
  have := Int.mul_le_mul_of_nonneg_left (show (1 : Int) ≤ 2 ^ c by omega) (show (0 : Int) ≤ 2 ^ a by omega)
  omega

def Bytes (l : List Int) : Prop := ∀ x ∈ l, 0 ≤ x ∧ x < 256
theorem Bytes.at_ {l : List Int} (h : Bytes l) (k : Nat) (hk : k < l.length) : 0 ≤ l[k] ∧ l[k] < 256 := h _ (List.getElem_mem hk)
theorem Bytes.app {l m : List Int} (h : Bytes l) (h2 : Bytes m) : Bytes (l ++ m) := fun x hx => (List.mem_append.1 hx).elim (h x) (h2 x)
theorem Bytes.take {l : List Int} (h : Bytes l) (k : Nat) : Bytes (l.take k) := fun x hx => h x (List.mem_of_mem_take hx)
theorem Bytes.drop {l : List Int} (h : Bytes l) (k : Nat) : Bytes (l.drop k) := fun x hx => h x (List.mem_of_mem_drop hx)

/-- The number whose bytes these are, the least significant one first. -/
def get : List Int → Int
  | [] => 0
  | c :: r => c + 256 * get r
theorem get_range (l : List Int) (h : Bytes l) : 0 ≤ get l ∧ get l < 2 ^ (8 * l.length) := by
  induction l with
  | nil => simp [get]
  | cons c r ih =>
    have h1 := h c (List.mem_cons_self ..)
    have h2 := ih (fun x hx => h x (List.mem_cons_of_mem _ hx))
    rw [get, List.length_cons, pow8]
    omega
theorem get_snoc (l : List Int) (c : Int) : get (l ++ [c]) = get l + c * 2 ^ (8 * l.length) := by
  induction l with
  | nil => simp [get]
  | cons d r ih =>
    rw [List.cons_append, get, ih, get, List.length_cons, pow8, Int.mul_add, Int.add_assoc, ← Int.mul_assoc, Int.mul_comm (2 ^ (8 * r.length)) 256, ← Int.mul_assoc, Int.mul_comm 256 c]
theorem get_take (l : List Int) (k : Nat) (hk : k < l.length) : get (l.take (k + 1)) = get (l.take k) + l[k] * 2 ^ (8 * k) := by
  rw [List.take_succ_eq_append_getElem hk, get_snoc, List.length_take, Nat.min_eq_left (by omega)]
theorem get_drop (l : List Int) (k : Nat) (hk : k < l.length) : get (l.drop k) = 256 * get (l.drop (k + 1)) + l[k] := by
  rw [List.drop_eq_getElem_cons hk, get]; omega
theorem get_small (l : List Int) (h : Bytes l) (hl : l.length ≤ 8) : 0 ≤ get l ∧ get l < 18446744073709551616 := by
  have h1 := get_range l h
  have h2 := pow_le (show 8 * l.length ≤ 64 by omega)
  have h3 : (2 : Int) ^ 64 = 18446744073709551616 := by decide
  omega
end Go.Proofs.Ytoelaamkkfjbfaa.M
