/- How the model's words for 16 bits come to the register. -/
import Derived.Test.YtoelaamkkfjbfaaMathI
import Derived.Test.YtoelaamkkfjbfaaCrc
namespace Go.Proofs.Ytoelaamkkfjbfaa
open Go.RowKit

def S (r : BitVec 16) : Int := ((r.toNat : Nat) : Int)
theorem S_range (r : BitVec 16) : 0 ≤ S r ∧ S r < 65536 := by have := r.isLt; unfold S; omega
theorem S_inj {r s : BitVec 16} (h : S r = S s) : r = s := BitVec.eq_of_toNat_eq (by unfold S at h; omega)
theorem xor16 (a b : BitVec 16) : bits .xor .u16 (S a) (S b) = S (a ^^^ b) := by
  have h := u16_xor_nat a.toNat b.toNat a.isLt b.isLt
  rw [← BitVec.toNat_xor] at h
  exact h
theorem shl16 (a : BitVec 16) (n : Nat) : IntKind.u16.wrap (S a * 2 ^ n) = S (a <<< n) := by
  rw [IntKind.wrap_u16]
  unfold S
  rw [BitVec.toNat_shiftLeft, Nat.shiftLeft_eq, ← pow_nat]
  omega
theorem S_nat (n : Nat) (h : n < 65536) : S (BitVec.ofNat 16 n) = (n : Int) := by
  unfold S
  rw [BitVec.toNat_ofNat, Nat.mod_eq_of_lt (by omega)]
theorem msb_spell (v : BitVec 16) : S v / 32768 = if v.msb then 1 else 0 := by
  have := v.isLt
  rw [BitVec.msb_eq_decide]
  unfold S
  by_cases h : 32768 ≤ v.toNat
  · rw [if_pos (by simpa using h)]; omega
  · rw [if_neg (by simpa using h)]; omega
theorem sh_spell (v : BitVec 16) : bits .xor .u16 (IntKind.u16.wrap (S v * 2)) (IntKind.u16.wrap (S v / 32768 * 4129)) = S (C.sh v) := by
  have h1 : IntKind.u16.wrap (S v * 2) = S (v <<< 1) := shl16 v 1
  have h2 : IntKind.u16.wrap (S v / 32768 * 4129) = S (if v.msb then 0x1021#16 else 0#16) := by
    rw [msb_spell]
    cases v.msb <;> decide
  rw [h1, h2, xor16]
  rfl
theorem sh_spell' (v : BitVec 16) (x p : Int) (hx : S v = x) (hp : x / 32768 = p) : bits .xor .u16 (IntKind.u16.wrap (x * 2)) (p * 4129) = S (C.sh v) := by
  have h := S_range v
  have h1 := sh_spell v
  rw [hx, hp, show IntKind.u16.wrap (p * 4129) = p * 4129 by rw [IntKind.wrap_u16]; omega] at h1
  exact h1
theorem part15 (v : BitVec 16) : part (S v) 15 1 = S v / 32768 := by
  have h := S_range v
  rw [part_small _ _ _ (by omega)]
  show (if (1 : Int) < 1 then 0 else if (63 : Int) < 1 then _ else (S v / 2 ^ 15) % 2 ^ 1) = _
  rw [if_neg (by omega), if_neg (by omega)]
  show S v / 32768 % 2 = _
  omega
/-- What the table holds, and how a byte is taken by it. -/
def restI (c : Nat) : Int := S (C.rest c)
theorem byte_spell (v : BitVec 16) (c : Nat) (hc : c < 256) : bits .xor .u16 (IntKind.u16.wrap (S v * 256)) (restI (bits .xor .u8 (S v / 256) (c : Int)).toNat) = S (C.byte v c) := by
  have hv := v.isLt
  have h1 : IntKind.u16.wrap (S v * 256) = S (v <<< 8) := shl16 v 8
  have h2 : bits .xor .u8 (S v / 256) (c : Int) = (((v.toNat / 256) ^^^ c : Nat) : Int) := by
    have h := u8_xor_nat (v.toNat / 256) c (by omega) hc
    rw [← h]
    congr 1
  rw [h1, h2, restI, xor16, C.byte_table]
  rfl
theorem idx_range (v : BitVec 16) (c : Nat) (hc : c < 256) : ∃ j : Nat, bits .xor .u8 (S v / 256) (c : Int) = (j : Int) ∧ j < 256 := by
  have hv := v.isLt
  refine ⟨(v.toNat / 256) ^^^ c, ?_, Nat.xor_lt_two_pow (n := 8) (by omega) hc⟩
  have h := u8_xor_nat (v.toNat / 256) c (by omega) hc
  rw [← h]
  congr 1

/-- The bytes as plain numbers. -/
def nats (l : List Int) : List Nat := l.map Int.toNat
theorem nats_len (l : List Int) : (nats l).length = l.length := by simp [nats]
theorem nats_app (l m : List Int) : nats (l ++ m) = nats l ++ nats m := by simp [nats]
theorem nats_lt {l : List Int} (h : M.Bytes l) : ∀ x ∈ nats l, x < 256 := fun x hx => by
  obtain ⟨c, hc, rfl⟩ := List.mem_map.1 hx
  have := h c hc
  omega
theorem nats_at (l : List Int) (k : Nat) (hk : k < l.length) : (nats l).getD k 0 = l[k].toNat := by
  rw [C.getD_at _ _ (by rw [nats_len]; exact hk)]
  simp [nats]
def after (v : BitVec 16) (l : List Int) : BitVec 16 := C.more v (nats l)
theorem after_zero (v : BitVec 16) (l : List Int) : after v (l.take 0) = v := by simp [after, nats, C.more_nil]
theorem after_succ (v : BitVec 16) (l : List Int) (k : Nat) (hk : k < l.length) : after v (l.take (k + 1)) = C.byte (after v (l.take k)) l[k].toNat := by
  rw [List.take_succ_eq_append_getElem hk]
  unfold after
  rw [nats_app]
  exact C.more_snoc ..
theorem after_app (v : BitVec 16) (l m : List Int) : after v (l ++ m) = after (after v l) m := by
  unfold after
  rw [nats_app, C.more_app]
def sumV (l : List Int) : BitVec 16 := after 0xffff#16 l
end Go.Proofs.Ytoelaamkkfjbfaa
