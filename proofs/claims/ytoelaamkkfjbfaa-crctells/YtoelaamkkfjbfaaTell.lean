/- That sealed bytes are opened, and that none are of which bits are turned that stand within 16 in a row. -/
import Derived.Test.YtoelaamkkfjbfaaOpen
namespace Go.Proofs.Ytoelaamkkfjbfaa
open Go.RowKit

def ints (l : List Nat) : List Int := l.map fun x => ((x : Nat) : Int)
theorem ints_len (l : List Nat) : (ints l).length = l.length := by simp [ints]
theorem nats_ints (l : List Nat) : nats (ints l) = l := by simp [nats, ints, Function.comp_def]
theorem ints_nats {l : List Int} (h : M.Bytes l) : ints (nats l) = l := by
  unfold ints nats
  rw [List.map_map]
  refine (List.map_congr_left (fun x hx => ?_)).trans (List.map_id l)
  have := h x hx
  show ((x.toNat : Nat) : Int) = x
  omega
theorem ints_bytes {l : List Nat} (h : ∀ x ∈ l, x < 256) : M.Bytes (ints l) := fun x hx => by
  obtain ⟨y, hy, rfl⟩ := List.mem_map.1 hx
  have := h y hy
  omega
theorem ints_at (l : List Nat) (k : Nat) (hk : k < l.length) : (ints l)[k]'(by rw [ints_len]; exact hk) = ((l.getD k 0 : Nat) : Int) := by
  rw [C.getD_at l k hk]
  simp [ints]

/-- The byte of bit q with this bit turned. -/
def flip (l : List Nat) (q : Nat) : List Nat := l.set (q / 8) (l.getD (q / 8) 0 ^^^ (128 / 2 ^ (q % 8)))
theorem flip_len (l : List Nat) (q : Nat) : (flip l q).length = l.length := by simp [flip]
theorem flip_at (l : List Nat) (q i : Nat) (hq : q / 8 < l.length) : (flip l q).getD i 0 = if i = q / 8 then l.getD (q / 8) 0 ^^^ (128 / 2 ^ (q % 8)) else l.getD i 0 := by
  unfold flip
  by_cases h : i = q / 8
  · subst h
    rw [if_pos rfl, C.getD_at _ _ (by simpa using hq)]
    simp
  · rw [if_neg h, List.getD_eq_getElem?_getD, List.getElem?_set_ne (by omega), ← List.getD_eq_getElem?_getD]
theorem bit_mask : ∀ r s : Fin 8, (128 / 2 ^ r.val).testBit (7 - s.val) = decide (s.val = r.val) := by decide
theorem flip_bit (l : List Nat) (q p : Nat) (hq : q / 8 < l.length) : C.bitAt (flip l q) p = (C.bitAt l p ^^ decide (p = q)) := by
  unfold C.bitAt
  rw [flip_at l q _ hq]
  by_cases h : p / 8 = q / 8
  · rw [if_pos h, Nat.testBit_xor, bit_mask ⟨q % 8, by omega⟩ ⟨p % 8, by omega⟩, h]
    congr 1
    by_cases h2 : p = q
    · simp [h2]
    · have : p % 8 ≠ q % 8 := by omega
      simp [h2, this]
  · have : p ≠ q := fun e => h (by rw [e])
    rw [if_neg h, decide_eq_false this, Bool.xor_false]
theorem mask_lt : ∀ r : Fin 8, 128 / 2 ^ r.val < 256 := by decide
theorem flip_lt {l : List Nat} (q : Nat) (h : ∀ x ∈ l, x < 256) : ∀ x ∈ flip l q, x < 256 := fun x hx => by
  rcases List.mem_or_eq_of_mem_set hx with hx | rfl
  · exact h x hx
  · refine Nat.xor_lt_two_pow (n := 8) ?_ (mask_lt ⟨q % 8, by omega⟩)
    by_cases hq : q / 8 < l.length
    · rw [C.getD_at l _ hq]; exact h _ (List.getElem_mem _)
    · rw [List.getD_eq_getElem?_getD, List.getElem?_eq_none (by omega)]; decide

def turned (s : List Nat) (a t : Nat) : Nat → List Nat
  | 0 => s
  | k + 1 => if t / 2 ^ k % 2 = 1 then flip (turned s a t k) (a + k) else turned s a t k
theorem turned_len (s : List Nat) (a t k : Nat) : (turned s a t k).length = s.length := by
  induction k with
  | zero => rfl
  | succ k ih =>
    rw [turned]
    split
    · rw [flip_len, ih]
    · exact ih
theorem turned_lt {s : List Nat} (a t k : Nat) (h : ∀ x ∈ s, x < 256) : ∀ x ∈ turned s a t k, x < 256 := by
  induction k with
  | zero => exact h
  | succ k ih =>
    rw [turned]
    split
    · exact flip_lt _ ih
    · exact ih
def errs (a t k p : Nat) : Bool := decide (a ≤ p ∧ p < a + k) && t.testBit (p - a)
theorem turned_bit (s : List Nat) (a t k p : Nat) (h : a + k ≤ 8 * s.length) : C.bitAt (turned s a t k) p = (C.bitAt s p ^^ errs a t k p) := by
  induction k with
  | zero =>
    have : ¬ (a ≤ p ∧ p < a + 0) := by omega
    unfold errs
    rw [turned, decide_eq_false this, Bool.false_and, Bool.xor_false]
  | succ k ih =>
    have e : errs a t (k + 1) p = (errs a t k p ^^ (decide (p = a + k) && t.testBit k)) := by
      unfold errs
      by_cases hp : p = a + k
      · subst hp
        rw [decide_eq_true (show a ≤ a + k ∧ a + k < a + (k + 1) by omega), decide_eq_false (show ¬ (a ≤ a + k ∧ a + k < a + k) by omega), decide_eq_true rfl, Nat.add_sub_cancel_left]
        simp
      · have : (a ≤ p ∧ p < a + (k + 1)) ↔ (a ≤ p ∧ p < a + k) := by omega
        rw [decide_eq_false hp, Bool.false_and, Bool.xor_false, decide_eq_decide.2 this]
    rw [turned, e]
    split
    · rename_i ht
      have hb : t.testBit k = true := by rw [Nat.testBit_eq_decide_div_mod_eq, ht]; rfl
      rw [flip_bit _ _ _ (by rw [turned_len]; omega), ih (by omega), hb, Bool.and_true, Bool.xor_assoc]
    · rename_i ht
      have hb : t.testBit k = false := by rw [Nat.testBit_eq_decide_div_mod_eq, decide_eq_false ht]
      rw [ih (by omega), hb, Bool.and_false, Bool.xor_false]

theorem ok_zero (l : List Int) (hb : M.Bytes l) (h2 : ¬ l.length < 2) : okB l = true ↔ sumV l = 0#16 := by
  obtain ⟨n, hn⟩ : ∃ n, l.length = n + 2 := ⟨l.length - 2, by omega⟩
  have hcut := cut_two l n hn
  obtain ⟨x, hx⟩ : ∃ x, l[n] = x := ⟨_, rfl⟩
  obtain ⟨y, hy⟩ : ∃ y, l[n + 1] = y := ⟨_, rfl⟩
  have hxr := hb.at_ n (by omega)
  have hyr := hb.at_ (n + 1) (by omega)
  rw [hx] at hcut hxr
  rw [hy] at hcut hyr
  have hok := ok_iff l (l.take n) x y (by rw [hn]; rfl) hcut
  have hs : sumV l = C.more (sumV (l.take n)) [x.toNat, y.toNat] := by
    have : sumV l = after (sumV (l.take n)) [x, y] := by
      conv => lhs; rw [hcut]
      unfold sumV
      rw [after_app]
    rw [this]; rfl
  have hcl := C.closed (sumV (l.take n)) x.toNat y.toNat (by omega) (by omega)
  have hr := (sumV (l.take n)).isLt
  rw [hok, hs, hcl, Bool.and_eq_true, decide_eq_true_iff, decide_eq_true_iff]
  unfold S
  omega
theorem seal_ok (l : List Int) : okB (sealI l) = true := by
  unfold okB
  rw [seal_len, show (sealI l).take (l.length + 2 - 2) = l by unfold sealI; simp]
  simp
theorem seal_openL (l : List Int) : openL (sealI l) = l := by
  unfold openL
  rw [if_neg (by rw [seal_len]; omega), seal_ok, if_pos rfl, seal_len]
  unfold sealI; simp
theorem seal_openE (l : List Int) : openE (sealI l) = 0 := by
  unfold openE
  rw [if_neg (by rw [seal_len]; omega), seal_ok, if_pos rfl]
theorem tells (l : List Int) (hb : M.Bytes l) (a t : Nat) (ha : a ≤ 8 * l.length) (ht : t < 65536) (h0 : t ≠ 0) : okB (ints (turned (nats (sealI l)) a t 16)) = false := by
  have hsb := seal_bytes hb
  have hlen : (nats (sealI l)).length = l.length + 2 := by rw [nats_len, seal_len]
  have hlt := nats_lt hsb
  have htl := turned_lt a t 16 hlt
  cases hk : okB (ints (turned (nats (sealI l)) a t 16)) with
  | false => rfl
  | true =>
    exfalso
    have h1 := (ok_zero _ (ints_bytes htl) (by rw [ints_len, turned_len, hlen]; omega)).1 hk
    have h2 := (ok_zero _ hsb (by rw [seal_len]; omega)).1 (seal_ok l)
    unfold sumV after at h1 h2
    rw [nats_ints, C.more_all _ _ htl, turned_len] at h1
    rw [C.more_all _ _ hlt] at h2
    have h3 := C.run_xor 0xffff#16 0#16 (C.bitAt (nats (sealI l))) (errs a t 16) (8 * (nats (sealI l)).length)
    rw [BitVec.xor_zero, h2, BitVec.zero_xor, C.run_congr _ _ (C.bitAt (turned (nats (sealI l)) a t 16)) _ (fun i _ => (turned_bit _ a t 16 i (by rw [hlen]; omega)).symm), h1] at h3
    have h4 := C.burst (errs a t 16) a (8 * (nats (sealI l)).length) (by rw [hlen]; omega) (fun p hp => by unfold errs; rw [decide_eq_false (by omega), Bool.false_and]) (fun p hp _ => by unfold errs; rw [decide_eq_false (by omega), Bool.false_and]) h3.symm
    refine h0 (Nat.eq_of_testBit_eq fun i => ?_)
    rw [Nat.zero_testBit]
    by_cases hi : i < 16
    · have := h4 i hi
      unfold errs at this
      rw [decide_eq_true (by omega), Bool.true_and, Nat.add_sub_cancel_left] at this
      exact this
    · exact Nat.testBit_lt_two_pow (Nat.lt_of_lt_of_le ht (Nat.pow_le_pow_right (n := 2) (by omega) (show 16 ≤ i by omega)))
end Go.Proofs.Ytoelaamkkfjbfaa
