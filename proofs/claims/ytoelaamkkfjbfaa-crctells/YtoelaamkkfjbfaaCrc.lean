/- The register of a checksum, bit by bit; that it is linear; that no run of 16 bits of which one is set leaves it at 0. -/
import Derived.Test.YtoelaamkkfjbfaaBytey
namespace Go.Proofs.Ytoelaamkkfjbfaa.C

def sh (r : BitVec 16) : BitVec 16 := (r <<< 1) ^^^ (if r.msb then 0x1021#16 else 0#16)
theorem shl_xor (a b : BitVec 16) (n : Nat) : (a ^^^ b) <<< n = (a <<< n) ^^^ (b <<< n) := by
  ext i hi
  simp
  by_cases h : i < n <;> simp [h]
theorem sh_xor (a b : BitVec 16) : sh (a ^^^ b) = sh a ^^^ sh b := by
  unfold sh
  rw [shl_xor, BitVec.msb_xor]
  cases a.msb <;> cases b.msb <;> simp [BitVec.xor_assoc]
  · rw [BitVec.xor_comm (b <<< 1)]
  · rw [BitVec.xor_comm (4129#16), BitVec.xor_assoc, BitVec.xor_self, BitVec.xor_zero]
theorem sh_zero : sh 0#16 = 0#16 := by decide
theorem sh_one {a : BitVec 16} (h : sh a = 0#16) : a = 0#16 := by
  unfold sh at h
  cases hm : a.msb with
  | true =>
    rw [hm] at h
    have := congrArg (fun v => v.getLsbD 0) h
    simp at this
  | false =>
    rw [hm] at h
    simp at h
    ext i hi
    have h15 : a.getLsbD 15 = false := by rw [BitVec.msb_eq_getLsbD_last] at hm; exact hm
    by_cases hi15 : i = 15
    · subst hi15
      simpa [BitVec.getLsbD_eq_getElem] using h15
    · have := congrArg (fun v => v.getLsbD (i + 1)) h
      simp at this
      have := this (by omega)
      simpa [BitVec.getLsbD_eq_getElem (show i < 16 by omega)] using this

def shn : Nat → BitVec 16 → BitVec 16
  | 0, r => r
  | n + 1, r => sh (shn n r)
theorem shn_xor (n : Nat) (a b : BitVec 16) : shn n (a ^^^ b) = shn n a ^^^ shn n b := by
  induction n with
  | zero => rfl
  | succ n ih => rw [shn, ih, sh_xor]; rfl
theorem shn_one {n : Nat} {a : BitVec 16} (h : shn n a = 0#16) : a = 0#16 := by
  induction n with
  | zero => exact h
  | succ n ih => exact ih (sh_one h)

def top (b : Bool) : BitVec 16 := if b then 0x8000#16 else 0#16
def step (r : BitVec 16) (b : Bool) : BitVec 16 := sh (r ^^^ top b)
theorem top_xor (a b : Bool) : top (a ^^ b) = top a ^^^ top b := by cases a <;> cases b <;> decide
theorem step_xor (r s : BitVec 16) (a b : Bool) : step (r ^^^ s) (a ^^ b) = step r a ^^^ step s b := by
  unfold step
  rw [top_xor, ← sh_xor]
  congr 1
  ac_rfl
def run (r : BitVec 16) (f : Nat → Bool) : Nat → BitVec 16
  | 0 => r
  | n + 1 => step (run r f n) (f n)
theorem run_xor (r s : BitVec 16) (f g : Nat → Bool) (n : Nat) : run (r ^^^ s) (fun p => f p ^^ g p) n = run r f n ^^^ run s g n := by
  induction n with
  | zero => rfl
  | succ n ih => rw [run, ih, step_xor]; rfl
theorem run_add (r : BitVec 16) (f : Nat → Bool) (m n : Nat) : run r f (m + n) = run (run r f m) (fun i => f (m + i)) n := by
  induction n with
  | zero => rfl
  | succ n ih => rw [← Nat.add_assoc, run, ih]; rfl
theorem run_congr (r : BitVec 16) (f g : Nat → Bool) (n : Nat) (h : ∀ i, i < n → f i = g i) : run r f n = run r g n := by
  induction n with
  | zero => rfl
  | succ n ih => rw [run, run, ih (fun i hi => h i (by omega)), h n (by omega)]
theorem run_zero (f : Nat → Bool) (n : Nat) (h : ∀ i, i < n → f i = false) : run 0#16 f n = 0#16 := by
  induction n with
  | zero => rfl
  | succ n ih => rw [run, ih (fun i hi => h i (by omega)), h n (by omega)]; decide
theorem run_on (r : BitVec 16) (f : Nat → Bool) (n : Nat) (h : ∀ i, i < n → f i = false) (h0 : run r f n = 0#16) : r = 0#16 := by
  induction n with
  | zero => exact h0
  | succ n ih =>
    rw [run, h n (by omega), step] at h0
    refine ih (fun i hi => h i (by omega)) ?_
    have := sh_one h0
    simpa [top] using this

/-- Up to 16 bits, laid into a register from its upper end. -/
def val (f : Nat → Bool) : Nat → BitVec 16
  | 0 => 0#16
  | n + 1 => val f n ^^^ (top (f n) >>> n)
theorem shn_top : ∀ k : Fin 16, ∀ b : Bool, shn k.val (top b >>> k.val) = top b := by decide
theorem run_val (r : BitVec 16) (f : Nat → Bool) (n : Nat) (hn : n ≤ 16) : run r f n = shn n (r ^^^ val f n) := by
  induction n with
  | zero => simp [run, val, shn]
  | succ n ih =>
    rw [run, ih (by omega), step, shn, val, ← BitVec.xor_assoc, shn_xor n (r ^^^ val f n), shn_top ⟨n, by omega⟩ (f n)]
theorem top_bit : ∀ k j : Fin 16, ∀ b : Bool, (top b >>> k.val).getLsbD j.val = (b && decide (j.val + k.val = 15)) := by decide
theorem val_bit (f : Nat → Bool) (n j : Nat) (hn : n ≤ 16) (hj : j < 16) : (val f n).getLsbD j = (decide (15 - j < n) && f (15 - j)) := by
  induction n with
  | zero => simp [val]
  | succ n ih =>
    rw [val, BitVec.getLsbD_xor, ih (by omega), top_bit ⟨n, by omega⟩ ⟨j, hj⟩]
    by_cases h : j + n = 15
    · have h1 : n = 15 - j := by omega
      subst h1
      simp [h]
    · have h2 : (15 - j < n + 1) = (15 - j < n) := by apply propext; omega
      simp [h, h2]
theorem run_tells (f : Nat → Bool) (h : run 0#16 f 16 = 0#16) (i : Nat) (hi : i < 16) : f i = false := by
  rw [run_val _ _ _ (Nat.le_refl _), BitVec.zero_xor] at h
  have h1 := shn_one h
  have h2 := val_bit f 16 (15 - i) (Nat.le_refl _) (by omega)
  rw [h1, show 15 - (15 - i) = i by omega] at h2
  simpa [hi] using h2.symm

/-- Errors of which all lie within 16 bits in a row, one of them at least. -/
theorem burst (g : Nat → Bool) (a n : Nat) (hn : a + 16 ≤ n) (h0 : ∀ p, p < a → g p = false) (h1 : ∀ p, a + 16 ≤ p → p < n → g p = false) (h : run 0#16 g n = 0#16) : ∀ i, i < 16 → g (a + i) = false := by
  obtain ⟨m, rfl⟩ := Nat.exists_eq_add_of_le hn
  rw [run_add] at h
  have h2 := run_on _ _ _ (fun i hi => h1 (a + 16 + i) (by omega) (by omega)) h
  rw [run_add, run_zero g a h0] at h2
  exact fun i hi => run_tells _ h2 i hi

/-- Byte by byte. -/
def byte (r : BitVec 16) (c : Nat) : BitVec 16 := shn 8 (r ^^^ (BitVec.ofNat 16 c <<< 8))
def bitAt (l : List Nat) (p : Nat) : Bool := (l.getD (p / 8) 0).testBit (7 - p % 8)
def more (r : BitVec 16) (l : List Nat) : BitVec 16 := l.foldl byte r
theorem more_nil (r : BitVec 16) : more r [] = r := rfl
theorem more_app (r : BitVec 16) (l m : List Nat) : more r (l ++ m) = more (more r l) m := List.foldl_append ..
theorem more_snoc (r : BitVec 16) (l : List Nat) (c : Nat) : more r (l ++ [c]) = byte (more r l) c := by rw [more_app]; rfl
theorem val_byte : ∀ c : Fin 256, val (fun i => c.val.testBit (7 - i % 8)) 8 = BitVec.ofNat 16 c.val <<< 8 := by decide +kernel
theorem val_congr (f g : Nat → Bool) (n : Nat) (h : ∀ i, i < n → f i = g i) : val f n = val g n := by
  induction n with
  | zero => rfl
  | succ n ih => rw [val, val, ih (fun i hi => h i (by omega)), h n (by omega)]
theorem run_byte (r : BitVec 16) (l : List Nat) (k : Nat) (hk : l.getD k 0 < 256) : run r (bitAt l) (8 * k + 8) = byte (run r (bitAt l) (8 * k)) (l.getD k 0) := by
  rw [run_add, run_val _ _ _ (by omega), byte, ← val_byte ⟨l.getD k 0, hk⟩]
  congr 2
  refine val_congr _ _ _ (fun i hi => ?_)
  show bitAt l (8 * k + i) = _
  unfold bitAt
  rw [show (8 * k + i) / 8 = k by omega, show (8 * k + i) % 8 = i % 8 by omega]
theorem getD_at (l : List Nat) (k : Nat) (hk : k < l.length) : l.getD k 0 = l[k] := by rw [List.getD_eq_getElem?_getD, List.getElem?_eq_getElem hk]; rfl
theorem take_snoc (l : List Nat) (k : Nat) (hk : k < l.length) : l.take (k + 1) = l.take k ++ [l.getD k 0] := by
  rw [List.take_succ_eq_append_getElem hk, getD_at l k hk]
theorem more_run (r : BitVec 16) (l : List Nat) (hl : ∀ x ∈ l, x < 256) (k : Nat) (hk : k ≤ l.length) : run r (bitAt l) (8 * k) = more r (l.take k) := by
  induction k with
  | zero => rfl
  | succ k ih =>
    have h1 : l.getD k 0 < 256 := by rw [getD_at l k (by omega)]; exact hl _ (List.getElem_mem _)
    rw [Nat.mul_succ, run_byte r l k h1, ih (by omega), take_snoc l k (by omega), more_snoc]
theorem more_all (r : BitVec 16) (l : List Nat) (hl : ∀ x ∈ l, x < 256) : more r l = run r (bitAt l) (8 * l.length) := by
  rw [more_run r l hl _ (Nat.le_refl _), List.take_length]

/-- What the table holds at c. -/
def rest (c : Nat) : BitVec 16 := shn 8 (BitVec.ofNat 16 c <<< 8)
theorem low_byte : ∀ c : Fin 256, shn 8 (BitVec.ofNat 16 c.val) = BitVec.ofNat 16 c.val <<< 8 := by decide +kernel
theorem byte_table (r : BitVec 16) (c : Nat) : byte r c = (r <<< 8) ^^^ rest (r.toNat / 256 ^^^ c) := by
  have hr : r.toNat < 65536 := r.isLt
  have h1 : r.toNat / 256 < 256 := by omega
  have h2 : r = BitVec.ofNat 16 (r.toNat % 256) ^^^ (BitVec.ofNat 16 (r.toNat / 256) <<< 8) := by
    apply BitVec.eq_of_toNat_eq
    rw [BitVec.toNat_xor, BitVec.toNat_shiftLeft, BitVec.toNat_ofNat, BitVec.toNat_ofNat, Nat.mod_eq_of_lt (show r.toNat % 256 < 2 ^ 16 by omega), Nat.mod_eq_of_lt (show r.toNat / 256 < 2 ^ 16 by omega), Nat.shiftLeft_eq, Nat.mod_eq_of_lt (show r.toNat / 256 * 2 ^ 8 < 2 ^ 16 by omega)]
    apply Nat.eq_of_testBit_eq
    intro i
    rw [Nat.testBit_xor, Nat.testBit_mul_two_pow, show (256 : Nat) = 2 ^ 8 by rfl, Nat.testBit_mod_two_pow, Nat.testBit_div_two_pow]
    by_cases h : i < 8
    · simp [h, show ¬ 8 ≤ i by omega]
    · simp [h, show 8 ≤ i by omega]
  have h3 : BitVec.ofNat 16 (r.toNat / 256 ^^^ c) = BitVec.ofNat 16 (r.toNat / 256) ^^^ BitVec.ofNat 16 c := by
    apply BitVec.eq_of_toNat_eq
    rw [BitVec.toNat_xor, BitVec.toNat_ofNat, BitVec.toNat_ofNat, BitVec.toNat_ofNat, Nat.xor_mod_two_pow]
  have h4 : (r <<< 8 : BitVec 16) = BitVec.ofNat 16 (r.toNat % 256) <<< 8 := by
    apply BitVec.eq_of_toNat_eq
    rw [BitVec.toNat_shiftLeft, BitVec.toNat_shiftLeft, BitVec.toNat_ofNat, Nat.shiftLeft_eq, Nat.shiftLeft_eq]
    omega
  rw [byte, rest, h3, shl_xor, h4, ← low_byte ⟨r.toNat % 256, by omega⟩, ← shn_xor]
  congr 1
  rw [← BitVec.xor_assoc]
  congr 1

/-- Two bytes behind, the register is 0 if and only if they are what it was. -/
theorem closed (r : BitVec 16) (h l : Nat) (hh : h < 256) (hl : l < 256) : more r [h, l] = 0#16 ↔ r.toNat = 256 * h + l := by
  have e : more r [h, l] = shn 16 (r ^^^ (BitVec.ofNat 16 h <<< 8) ^^^ BitVec.ofNat 16 l) := by
    show byte (byte r h) l = _
    have h8 : ∀ x, shn 16 x = shn 8 (shn 8 x) := fun _ => rfl
    rw [byte, byte, h8, shn_xor 8 (r ^^^ _), low_byte ⟨l, hl⟩]
  have t : ((BitVec.ofNat 16 h <<< 8) ^^^ BitVec.ofNat 16 l).toNat = 256 * h + l := by
    rw [BitVec.toNat_xor, BitVec.toNat_shiftLeft, BitVec.toNat_ofNat, BitVec.toNat_ofNat, Nat.mod_eq_of_lt (show h < 2 ^ 16 by omega), Nat.mod_eq_of_lt (show l < 2 ^ 16 by omega), Nat.shiftLeft_eq, Nat.mod_eq_of_lt (show h * 2 ^ 8 < 2 ^ 16 by omega)]
    have := Nat.two_pow_add_eq_or_of_lt (i := 8) (b := l) (by omega) h
    apply Nat.eq_of_testBit_eq
    intro i
    rw [show (256 : Nat) = 2 ^ 8 by rfl, this, Nat.testBit_xor, Nat.testBit_or, Nat.mul_comm h]
    by_cases h' : i < 8
    · rw [Nat.testBit_two_pow_mul, decide_eq_false (show ¬ 8 ≤ i by omega)]; simp
    · rw [Nat.testBit_lt_two_pow (x := l) (i := i) (Nat.lt_of_lt_of_le hl (Nat.pow_le_pow_right (n := 2) (by omega) (show 8 ≤ i by omega)))]
      simp
  constructor
  · intro h0
    rw [e] at h0
    have := shn_one h0
    rw [BitVec.xor_assoc, BitVec.xor_eq_zero_iff] at this
    rw [this, t]
  · intro h0
    have : r = (BitVec.ofNat 16 h <<< 8) ^^^ BitVec.ofNat 16 l := BitVec.eq_of_toNat_eq (by rw [t, h0])
    rw [e, BitVec.xor_assoc, ← this, BitVec.xor_self]
    decide
end Go.Proofs.Ytoelaamkkfjbfaa.C
