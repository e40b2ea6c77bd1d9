/- Plain mathematics of layer 1: digits, their value, what Parse answers. No program stands in it. -/
import Init
namespace Go.Proofs.YtmfofgakenpnaaaDoor.M

def isDig (c : UInt8) : Bool := decide (48 ≤ c.toNat) && decide (c.toNat ≤ 57)
def val (l : List UInt8) : Int := l.foldl (fun a c => 10 * a + ((c.toNat : Int) - 48)) 0
def digitsOk (l : List UInt8) : Bool := !l.isEmpty && l.all isDig && !(decide (1 < l.length) && l.head? == some 48)

theorem val_snoc (l : List UInt8) (c : UInt8) : val (l ++ [c]) = 10 * val l + ((c.toNat : Int) - 48) := by
  simp [val, List.foldl_append]

theorem isDig_iff (c : UInt8) : isDig c = true ↔ 48 ≤ c.toNat ∧ c.toNat ≤ 57 := by simp [isDig]

theorem take_snoc (s : ByteArray) (k : Nat) (h : k < s.size) : s.data.toList.take (k + 1) = s.data.toList.take k ++ [s[k]] := by
  rw [List.take_succ_eq_append_getElem (by simpa using h)]; rfl

theorem isDig_at (s : ByteArray) (h : s.data.toList.all isDig = true) (k : Nat) (hk : k < s.size) : 48 ≤ s[k].toNat ∧ s[k].toNat ≤ 57 := by
  rw [List.all_eq_true] at h
  have := h s[k] (by rw [show s[k] = s.data.toList[k]'(by simpa using hk) from rfl]; exact List.getElem_mem _)
  rwa [isDig_iff] at this

theorem val_take_succ (s : ByteArray) (k : Nat) (h : k < s.size) : val (s.data.toList.take (k + 1)) = 10 * val (s.data.toList.take k) + ((s[k].toNat : Int) - 48) := by
  rw [take_snoc s k h, val_snoc]

theorem val_take_nonneg (s : ByteArray) (h : s.data.toList.all isDig = true) (k : Nat) (hk : k ≤ s.size) : 0 ≤ val (s.data.toList.take k) := by
  induction k with
  | zero => simp [val]
  | succ k ih =>
    have := ih (by omega)
    have h2 := isDig_at s h k (by omega)
    rw [val_take_succ s k (by omega)]; omega

theorem val_take_mono (s : ByteArray) (h : s.data.toList.all isDig = true) (j k : Nat) (hk : j + k ≤ s.size) : val (s.data.toList.take j) ≤ val (s.data.toList.take (j + k)) := by
  induction k with
  | zero => simp
  | succ k ih =>
    have h1 := ih (by omega)
    have h2 := isDig_at s h (j + k) (by omega)
    have h3 := val_take_nonneg s h (j + k) (by omega)
    rw [← Nat.add_assoc, val_take_succ s (j + k) (by omega)]; omega

theorem take_all (s : ByteArray) : s.data.toList.take s.size = s.data.toList := by
  rw [List.take_of_length_le]; rw [Array.length_toList]; exact Nat.le_refl _

theorem val_take_le (s : ByteArray) (h : s.data.toList.all isDig = true) (k : Nat) (hk : k ≤ s.size) : val (s.data.toList.take k) ≤ val s.data.toList := by
  have := val_take_mono s h k (s.size - k) (by omega)
  rw [show k + (s.size - k) = s.size by omega, take_all] at this
  exact this

end Go.Proofs.YtmfofgakenpnaaaDoor.M
