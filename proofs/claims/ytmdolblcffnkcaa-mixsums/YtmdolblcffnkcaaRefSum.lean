/- The contract of Sum of the reference. -/
import Derived.Test.YtmdolblcffnkcaaWords
import Derived.Test.YtmdolblcffnkcaaWord
import Derived.Test.YtmdolblcffnkcaaSum
namespace Go.Proofs.Ytmdolblcffnkcaa
open Go.RowKit

/-- A group, filled up with zeros. -/
def full (l : List Int) (k : Nat) : List Int := M.group l k ++ List.replicate (8 - (M.group l k).length) 0
theorem full_len (l : List Int) (k : Nat) : (full l k).length = 8 := by
  unfold full; have := M.group_len l k; simp; omega
theorem full_bytes {l : List Int} (h : M.Bytes l) (k : Nat) : M.Bytes (full l k) := (M.group_bytes h k).app (fun x hx => by obtain ⟨_, rfl⟩ := List.mem_replicate.1 hx; omega)
theorem full_at (l : List Int) (k j : Nat) (hj : j < 8) (h : 8 * k + j < l.length) : (full l k).getD j 0 = l[8 * k + j] := by
  have h1 := M.group_len l k
  unfold full
  rw [List.getD_eq_getElem?_getD, List.getElem?_append_left (by omega)]
  unfold M.group
  rw [List.getElem?_take, if_pos hj, List.getElem?_drop, List.getElem?_eq_getElem h]; rfl
theorem full_zero (l : List Int) (k j : Nat) (h : l.length ≤ 8 * k + j) : (full l k).getD j 0 = 0 := by
  have h1 := M.group_len l k
  unfold full
  rw [List.getD_eq_getElem?_getD, List.getElem?_append_right (by omega), List.getElem?_replicate]
  split <;> rfl
theorem full_get {l : List Int} (hb : M.Bytes l) (k : Nat) : getOf (full l k) = (((M.wordAt l k : Nat) : Int), 0) := by
  rw [getOf_ok _ (by rw [full_len]; omega) (by rw [full_len]; omega), M.wordAt_int hb, full, M.get_zeros]
theorem full_row {w wr : World} {l : List Int} {k m : Nat} (h : wr.rowIs w.heap.size 31 8 (fun j => .int .u8 (if j < m then (full l k).getD j 0 else 0))) (hb : M.Bytes l) (hm : ∀ j, j < 8 → m ≤ j → l.length ≤ 8 * k + j) : BytesAt wr (.slice (some ⟨w.heap.size, 0, none⟩) 8 8) (full l k) := by
  refine ⟨_, _, by rw [full_len], ⟨by rw [full_len]; omega, fun h => by cases h⟩, full_bytes hb k, fun _ => ⟨w.heap.size, 0, rfl, h.lt, fun i hi => ?_⟩⟩
  rw [full_len] at hi
  rw [Nat.zero_add, h.cell hi]
  have e : (full l k)[i]'(by rw [full_len]; exact hi) = (full l k).getD i 0 := by rw [List.getD_eq_getElem?_getD, List.getElem?_eq_getElem]; rfl
  rw [e]
  by_cases h1 : i < m
  · rw [if_pos h1]
  · rw [if_neg h1, full_zero l k i (hm i hi (by omega))]
theorem zeros_row (w : World) : (w.alloc (.cells #[.int .u8 0, .int .u8 0, .int .u8 0, .int .u8 0, .int .u8 0, .int .u8 0, .int .u8 0, .int .u8 0] 31)).rowIs w.heap.size 31 8 (fun _ => .int .u8 0) := by
  refine ⟨_, World.alloc_heap_new w _, rfl, fun i hi => ?_⟩
  rw [show #[Value.int .u8 0, .int .u8 0, .int .u8 0, .int .u8 0, .int .u8 0, .int .u8 0, .int .u8 0, .int .u8 0] = Array.replicate 8 (.int .u8 0) from rfl]
  simp [hi]
theorem full_step {w wr : World} {l : List Int} {k m : Nat} {c : Int} (h : wr.rowIs w.heap.size 31 8 (fun j => .int .u8 (if j < m then (full l k).getD j 0 else 0))) (hc : (full l k).getD m 0 = c) :
    (wr.setCell ⟨w.heap.size, m, none⟩ (.int .u8 c)).rowIs w.heap.size 31 8 (fun j => .int .u8 (if j < m + 1 then (full l k).getD j 0 else 0)) := by
  refine (h.set m (.int .u8 c)).congr fun j _ => ?_
  by_cases e : j = m
  · subst e; rw [if_pos rfl, if_pos (by omega), hc]
  · rw [if_neg e]
    by_cases hl : j < m
    · rw [if_pos hl, if_pos (by omega)]
    · rw [if_neg hl, if_neg (by omega)]
set_option maxRecDepth 100000 in
set_option maxHeartbeats 1000000 in
theorem refSum_some (seed r h0 : Int) (g off cap : Nat) (l : List Int) (w : World) (hs : U64 seed) (hm : l.length ≤ 1000) (hh0U : U64 h0) (kh : Hid (wordI seed l.length = h0)) (hb : Hid (M.Bytes l)) (hg : g < w.heap.size)
    (hc : Hid (∀ i (h : i < l.length), w.cell? ⟨g, off + i, none⟩ = some (.int .u8 l[i]))) (hfin : Hid (((M.chain h0.toNat (M.words l (M.count l.length)) : Nat) : Int) = r)) :
    Calls Try.prog 11 #[.int .u64 seed, .slice (some ⟨g, off, none⟩) l.length cap] w fun e w' => e = .returned (.int .u64 r) ∧ Below w.heap.size w w' := by
  have hlU : U64 (l.length : Int) := by unfold U64; omega
  go_enter Try.func11, Try.ntmps11
  go_wp2_with fail
  refine (refWord_is seed l.length h0 _ hs hlU kh).mono ?_
  rintro e w' ⟨rfl, rfl⟩
  go_wp2_with fail
  go_loopw [5, 6] (fun t i wr => ∃ (k : Nat) (h : Int), k ≤ M.count l.length ∧ i = .int .i64 (8 * (k : Int)) ∧ t = .int .u64 h ∧ Hid (((M.chain h0.toNat (M.words l k) : Nat) : Int) = h) ∧ Below w.heap.size w wr) (fun _ i _ => l.length + 8 - (intOf i).toNat)
  case atStart => exact ⟨0, h0, Nat.zero_le _, rfl, rfl, Lib.hid (by rw [show M.words l 0 = [] from rfl, M.chain_nil, Int.toNat_of_nonneg hh0U.1]), Below.refl _ _⟩
  case round =>
    obtain ⟨k, h, hk, rfl, rfl, hh, hbel⟩ := hrel
    by_cases hlt : k < M.count l.length
    · have hlt2 : 8 * k < l.length := by unfold M.count at hlt; omega
      have b1 : 8 * (k : Int) < l.length := by omega
      obtain ⟨V0, rfl⟩ : ∃ V0, V0 = wr := ⟨_, rfl⟩
      have hU : U64 h := by rw [← hh.out]; exact of_lt (M.chain_lt _ _ (toNat_lt hh0U))
      obtain ⟨x, hx⟩ : ∃ x : Int, ((M.wordAt l k : Nat) : Int) = x := ⟨_, rfl⟩
      have hxU : U64 x := by rw [← hx]; exact of_lt (M.wordAt_lt hb.out k)
      obtain ⟨q, hq⟩ : ∃ q, rotI h 23 = q := ⟨_, rfl⟩
      have hqU : U64 q := by rw [← hq]; exact rotI_U64 ..
      obtain ⟨z, hz⟩ : ∃ z, wordI q x = z := ⟨_, rfl⟩
      have hnext : ((M.chain h0.toNat (M.words l (k + 1)) : Nat) : Int) = z := by
        rw [← hz, ← hq, sumI_step, M.words_succ, M.chain_snoc, ← hh.out, ← hx, Int.toNat_natCast, Int.toNat_natCast]
      have kx := Lib.hid (show getOf (full l k) = (x, 0) by rw [← hx]; exact full_get hb.out k)
      have kq := Lib.hid hq
      have kz := Lib.hid hz
      have kn := Lib.hid hnext
      clear hx hq hz hnext
      go_wp2_with fail
      go_loopw [8] (fun i V => ∃ (j : Nat), j ≤ 8 ∧ 8 * k + j ≤ l.length ∧ i = .int .i64 j ∧ V.rowIs V0.heap.size 31 8 (fun i => .int .u8 (if i < j then (full l k).getD i 0 else 0)) ∧ Below V0.heap.size V0 V) (fun i _ => 8 - (intOf i).toNat)
      case atStart => exact ⟨0, Nat.zero_le _, by omega, rfl, (zeros_row V0).congr (fun i _ => by rw [if_neg (Nat.not_lt_zero i)]), (Below.refl _ _).alloc (Nat.le_refl _) _⟩
      case round =>
        obtain ⟨j, hj, hjl, rfl, hrow, hb2⟩ := hrel
        by_cases hin : j < 8 ∧ 8 * k + j < l.length
        · obtain ⟨hj8, hjl2⟩ := hin
          have q1 : (j : Int) < 8 := by omega
          have q2 : 8 * (k : Int) + (j : Int) < l.length := by omega
          have q3 : 0 ≤ 8 * (k : Int) + (j : Int) := by omega
          obtain ⟨c, hcv⟩ : ∃ c, l[8 * k + j] = c := ⟨_, rfl⟩
          have hck : wr.cell? ⟨g, off + (8 * k + j), none⟩ = some (.int .u8 c) := by
            rw [← hcv]; exact (hb2.cell (p := ⟨g, off + (8 * k + j), none⟩) (Nat.lt_of_lt_of_le hg hbel.size)).trans ((hbel.cell (p := ⟨g, off + (8 * k + j), none⟩) hg).trans (hc.out (8 * k + j) hjl2))
          have hcd := Lib.hid (show (full l k).getD j 0 = c by rw [full_at l k j hj8 hjl2, hcv])
          have hcell := hrow.cell hj8
          have hfro := hrow.frozen j
          have HR := Lib.hid hrow
          clear hrow hcv
          go_wp2_with fail
          go_roundw
          case rel => exact ⟨j + 1, by omega, by omega, by go_num, full_step HR.out hcd.out, hb2.setCell (Nat.le_refl _) _⟩
          case measure => simp [intOf]; omega
        · have hB8 := full_row hrow hb.out (m := j) (fun i hi hij => by omega)
          clear hrow
          by_cases hj8 : j < 8
          · have q1 : (j : Int) < 8 := by omega
            have q2 : ¬ 8 * (k : Int) + (j : Int) < l.length := by omega
            have q3 : (8 * (k : Int) + (j : Int) < l.length) = False := by simpa using q2
            go_wp2_with fail
            refine (refGet_is _ (full l k) x 0 _ hB8 (by rw [full_len]; omega) kx).mono ?_
            rintro e w' ⟨rfl, rfl⟩
            go_wp2_with fail
            refine (refRot_is h 23 q _ hU.1 hU.2 kq).mono ?_
            rintro e w' ⟨rfl, rfl⟩
            go_wp2_with fail
            refine (refWord_is q x z _ hqU hxU kz).mono ?_
            rintro e w' ⟨rfl, rfl⟩
            go_wp2_with fail
            go_roundw
            case rel => exact ⟨k + 1, z, hlt, by go_num, rfl, kn, hbel.trans (hb2.mono hbel.size)⟩
            case measure => simp [intOf]; omega
          · obtain rfl : j = 8 := by omega
            go_wp2_with fail
            refine (refGet_is _ (full l k) x 0 _ hB8 (by rw [full_len]; omega) kx).mono ?_
            rintro e w' ⟨rfl, rfl⟩
            go_wp2_with fail
            refine (refRot_is h 23 q _ hU.1 hU.2 kq).mono ?_
            rintro e w' ⟨rfl, rfl⟩
            go_wp2_with fail
            refine (refWord_is q x z _ hqU hxU kz).mono ?_
            rintro e w' ⟨rfl, rfl⟩
            go_wp2_with fail
            go_roundw
            case rel => exact ⟨k + 1, z, hlt, by go_num, rfl, kn, hbel.trans (hb2.mono hbel.size)⟩
            case measure => simp [intOf]; omega
    · have b1 : ¬ 8 * (k : Int) < l.length := by unfold M.count at hlt; omega
      obtain rfl : k = M.count l.length := by omega
      go_wp2_with fail
      go_ret
      exact ⟨ret_int (hh.out.symm.trans hfin.out), hbel⟩
theorem refSum_nil (seed h0 : Int) (a : Option Addr) (cap : Nat) (w : World) (hs : U64 seed) (kh : Hid (wordI seed 0 = h0)) :
    Calls Try.prog 11 #[.int .u64 seed, .slice a 0 cap] w fun e w' => e = .returned (.int .u64 h0) ∧ Below w.heap.size w w' := by
  go_enter Try.func11, Try.ntmps11
  go_wp2_with fail
  refine (refWord_is seed 0 h0 _ hs (by unfold U64; omega) kh).mono ?_
  rintro e w' ⟨rfl, rfl⟩
  go_wp2
  refine wp_loop_rounds 1 ?_
  rw [rounds_succ]
  go_wp2_with fail
  go_ret
  exact ⟨rfl, Below.refl _ _⟩
theorem refSum_is (seed r : Int) (v : Value) (l : List Int) (w : World) (hs : U64 seed) (hm : l.length ≤ 1000) (hb : BytesAt w v l) (hr : Hid (sumI seed l = r)) :
    Calls Try.prog 11 #[.int .u64 seed, v] w fun e w' => e = .returned (.int .u64 r) ∧ Below w.heap.size w w' := by
  obtain ⟨h0, hh0⟩ : ∃ h, wordI seed l.length = h := ⟨_, rfl⟩
  have hh0U : U64 h0 := by rw [← hh0]; exact wordI_U64 ..
  have hfin := (sumI_is seed l h0 hh0).symm.trans hr.out
  obtain ⟨a, cap, rfl, _, hbytes, hc⟩ := hb
  by_cases hpos : 0 < l.length
  · obtain ⟨g, off, rfl, hg, hcell⟩ := hc hpos
    exact refSum_some seed r h0 g off cap l w hs hm hh0U (Lib.hid hh0) (Lib.hid hbytes) hg (Lib.hid hcell) (Lib.hid hfin)
  · have e : l = [] := List.eq_nil_of_length_eq_zero (by omega)
    subst e
    have e2 : h0 = r := by
      rw [← hfin, show M.words [] (M.count ([] : List Int).length) = [] from rfl, M.chain_nil, Int.toNat_of_nonneg hh0U.1]
    rw [← e2]
    exact refSum_nil seed h0 a cap w hs (Lib.hid hh0)
end Go.Proofs.Ytmdolblcffnkcaa
