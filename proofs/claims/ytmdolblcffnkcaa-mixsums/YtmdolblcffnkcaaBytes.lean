/- Slices of bytes that read as lists; the contracts of Get of package pack and of Get of the reference. -/
import Derived.Test.YtmdolblcffnkcaaSmall
import Derived.Below
import Derived.Laws.OwnMore
import Derived.Deep.Draws
import Derived.Deep.OwnRows
import Derived.Deep.AppendLies
namespace Go.Proofs.Ytmdolblcffnkcaa
open Go.RowKit

def widthOk (n : Int) : Bool := decide (1 ≤ n ∧ n ≤ 8)
theorem isWidth_is (n : Int) (b : Bool) (w : World) (hb : Hid (widthOk n = b)) :
    Calls Try.prog 38 #[.int .i64 n] w fun e w' => e = .returned (.bool b) ∧ w = w' := by
  by_cases h1 : n < 1
  · have H := Lib.hid (show widthOk n = false by unfold widthOk; simp; omega)
    go_enter Try.func38, Try.ntmps38
    go_wp2
    go_ret
    exact ⟨ret_bool (H.out.symm.trans hb.out), rfl⟩
  · by_cases h2 : 8 < n
    · have H := Lib.hid (show widthOk n = false by unfold widthOk; simp; omega)
      go_enter Try.func38, Try.ntmps38
      go_wp2
      go_ret
      exact ⟨ret_bool (H.out.symm.trans hb.out), rfl⟩
    · have H := Lib.hid (show widthOk n = true by unfold widthOk; simp; omega)
      go_enter Try.func38, Try.ntmps38
      go_wp2
      go_ret
      exact ⟨ret_bool (H.out.symm.trans hb.out), rfl⟩
theorem below_drewN {B : Nat} {a w : World} (h : Below B a w) (n : Nat) : Below B a (w.drewN n) := ⟨h.os, h.tape, h.output, h.size, h.block⟩
/-- The value v is a slice that holds the bytes l. -/
def BytesAt (w : World) (v : Value) (l : List Int) : Prop :=
  ∃ a cap, v = .slice a l.length cap ∧ (l.length ≤ cap ∧ (a = none → cap = 0)) ∧ M.Bytes l ∧ (0 < l.length → ∃ g off, a = some ⟨g, off, none⟩ ∧ g < w.heap.size ∧ ∀ i (h : i < l.length), w.cell? ⟨g, off + i, none⟩ = some (.int .u8 l[i]))
theorem BytesAt.keep {w w' : World} {B : Nat} {v : Value} {l : List Int} (h : BytesAt w v l) (hB : w.heap.size ≤ B) (hb : Below B w w') : BytesAt w' v l := by
  obtain ⟨a, cap, hv, hcap, hr, hc⟩ := h
  refine ⟨a, cap, hv, hcap, hr, fun h0 => ?_⟩
  obtain ⟨g, off, ha, hg, hcell⟩ := hc h0
  exact ⟨g, off, ha, Nat.lt_of_lt_of_le hg hb.size, fun i hi => (hb.cell (p := ⟨g, off + i, none⟩) (Nat.lt_of_lt_of_le hg hB)).trans (hcell i hi)⟩
theorem BytesAt.below {w w' : World} {v : Value} {l : List Int} (h : BytesAt w v l) (hb : Below w.heap.size w w') : BytesAt w' v l := h.keep (Nat.le_refl _) hb
theorem bytes_nil (w : World) : BytesAt w (.slice none 0 0) [] := ⟨none, 0, rfl, ⟨Nat.le_refl _, fun _ => rfl⟩, (fun x hx => by cases hx), (fun h => by simp at h)⟩
theorem bytes_of_owns {w : World} {B : Nat} {v : Value} {l : List Int} (h : w.ownsRow B 5 1 v l.length (l.map (Value.int .u8))) (hr : M.Bytes l) : BytesAt w v l := by
  have h' := h
  obtain ⟨_, h2⟩ := h
  rcases h2 with ⟨hv, h0⟩ | ⟨g, cap, cur, hv, hg, hh, hc, _⟩
  · exact ⟨none, 0, by rw [hv, h0], ⟨by omega, fun _ => rfl⟩, hr, fun hl => by omega⟩
  · subst hv
    refine ⟨_, cap, rfl, ⟨hc, fun h => by cases h⟩, hr, fun _ => ⟨g, 0, rfl, (Array.getElem?_eq_some_iff.1 hh).1, fun i hi => ?_⟩⟩
    rw [Nat.zero_add, h'.cellAt i (by omega)]; simp [hi]

theorem ret_get {a b c d : Int} (h : a = b) (h2 : c = d) : Ending.returned (.tuple #[.int .u64 a, .int .i64 c]) = .returned (.tuple #[.int .u64 b, .int .i64 d]) := by rw [h, h2]
/-- What Get answers. -/
def getOf (l : List Int) : Int × Int := if 1 ≤ l.length ∧ l.length ≤ 8 then (M.get l, 0) else (0, 3)
theorem getOf_ok (l : List Int) (h1 : 1 ≤ l.length) (h2 : l.length ≤ 8) : getOf l = (M.get l, 0) := if_pos ⟨h1, h2⟩
theorem getOf_bad (l : List Int) (h : ¬ (1 ≤ l.length ∧ l.length ≤ 8)) : getOf l = (0, 3) := if_neg h

theorem get_bad (a : Option Addr) (n cap : Nat) (w : World) (h : ¬ (1 ≤ n ∧ n ≤ 8)) (hm : n ≤ 1000) :
    Calls Try.prog 32 #[.slice a n cap] w fun e w' => e = .returned (.tuple #[.int .u64 0, .int .i64 3]) ∧ w = w' := by
  have HW := Lib.hid (show widthOk (n : Int) = false by unfold widthOk; simp; omega)
  clear h
  go_enter Try.func32, Try.ntmps32
  go_wp2_with fail
  refine (isWidth_is _ false _ HW).mono ?_
  rintro e w' ⟨rfl, rfl⟩
  go_wp2_with fail
  go_ret2
  exact ⟨rfl, rfl⟩
theorem or_get (l : List Int) (hb : M.Bytes l) (k : Nat) (hk : k < l.length) (h8 : l.length ≤ 8) : bits .or .u64 (M.get (l.take k)) (IntKind.u64.wrap (l[k] * 2 ^ (8 * k))) = M.get (l.take (k + 1)) := by
  have h1 := M.get_range (l.take k) (hb.take k)
  rw [List.length_take, Nat.min_eq_left (by omega)] at h1
  have h2 := M.get_small (l.take k) (hb.take k) (by rw [List.length_take]; omega)
  have h3 := M.get_small (l.take (k + 1)) (hb.take (k + 1)) (by rw [List.length_take]; omega)
  have hc := hb.at_ k hk
  rw [M.get_take l k hk] at h3 ⊢
  exact or_add _ _ _ h1.1 h1.2 hc.1 h2.2 (by omega)
theorem get_ok (g off : Nat) (cap : Nat) (l : List Int) (r : Int) (w : World) (hb : Hid (M.Bytes l)) (h1 : 1 ≤ l.length) (h8 : l.length ≤ 8) (hc : Hid (∀ i (h : i < l.length), w.cell? ⟨g, off + i, none⟩ = some (.int .u8 l[i]))) (hr : Hid (M.get l = r)) :
    Calls Try.prog 32 #[.slice (some ⟨g, off, none⟩) l.length cap] w fun e w' => e = .returned (.tuple #[.int .u64 r, .int .i64 0]) ∧ w = w' := by
  have HW := Lib.hid (show widthOk (l.length : Int) = true by unfold widthOk; simp; omega)
  go_enter Try.func32, Try.ntmps32
  go_wp2_with fail
  refine (isWidth_is _ true _ HW).mono ?_
  rintro e w' ⟨rfl, rfl⟩
  go_wp2_with fail
  go_loop [4, 13] (fun t i => ∃ (k : Nat) (x : Int), k ≤ l.length ∧ i = .int .i64 k ∧ t = .int .u64 x ∧ Hid (M.get (l.take k) = x)) (fun _ i => l.length - (intOf i).toNat)
  case atStart => exact ⟨0, 0, Nat.zero_le _, rfl, rfl, Lib.hid rfl⟩
  case round =>
    obtain ⟨k, x, hk, rfl, rfl, hx⟩ := hrel
    by_cases hlt : k < l.length
    · obtain ⟨c, hcv⟩ : ∃ c, l[k] = c := ⟨_, rfl⟩
      have hck := hc.out k hlt
      rw [hcv] at hck
      have hcb := hb.out.at_ k hlt
      rw [hcv] at hcb
      obtain ⟨hcb0, hcb1⟩ := hcb
      have hnext := Lib.hid (or_get l hb.out k hlt h8)
      rw [hcv, hx.out] at hnext
      have hk64 : 8 * (k : Int) ≤ 64 := by omega
      have hk0 : 0 ≤ 8 * (k : Int) := by omega
      clear hcv
      go_wp2_with fail
      go_round
      case rel => exact ⟨k + 1, _, by omega, by go_num, rfl, Lib.hid hnext.out.symm⟩
      case measure => simp [intOf]; omega
    · obtain rfl : k = l.length := by omega
      go_wp2_with fail
      go_ret2
      exact ⟨ret_get (by rw [← hx.out, List.take_length]; exact hr.out) rfl, rfl⟩
theorem get_is (v : Value) (l : List Int) (r1 r2 : Int) (w : World) (h : BytesAt w v l) (hm : l.length ≤ 1000) (hr : Hid (getOf l = (r1, r2))) :
    Calls Try.prog 32 #[v] w fun e w' => e = .returned (.tuple #[.int .u64 r1, .int .i64 r2]) ∧ w = w' := by
  obtain ⟨a, cap, rfl, _, hb, hc⟩ := h
  by_cases h1 : 1 ≤ l.length ∧ l.length ≤ 8
  · obtain ⟨g, off, rfl, _, hcell⟩ := hc (by omega)
    have hx := hr.out
    rw [getOf_ok l h1.1 h1.2] at hx
    injection hx with e1 e2
    subst e2
    exact get_ok g off cap l r1 w (Lib.hid hb) h1.1 h1.2 (Lib.hid hcell) (Lib.hid e1)
  · have hx := hr.out
    rw [getOf_bad l h1] at hx
    injection hx with e1 e2
    subst e1; subst e2
    exact get_bad a l.length cap w h1 hm

theorem refGet_bad (a : Option Addr) (n cap : Nat) (w : World) (h : ¬ (1 ≤ n ∧ n ≤ 8)) (hm : n ≤ 1000) :
    Calls Try.prog 22 #[.slice a n cap] w fun e w' => e = .returned (.tuple #[.int .u64 0, .int .i64 3]) ∧ w = w' := by
  by_cases h0 : n < 1
  · obtain rfl : n = 0 := by omega
    clear h
    go_enter Try.func22, Try.ntmps22
    go_wp2_with fail
    go_ret2
    exact ⟨rfl, rfl⟩
  · have h8 : 8 < n := by omega
    clear h
    go_enter Try.func22, Try.ntmps22
    go_wp2_with fail
    go_ret2
    exact ⟨rfl, rfl⟩
theorem refGet_ok (g off : Nat) (cap : Nat) (l : List Int) (r : Int) (w : World) (hb : Hid (M.Bytes l)) (h1 : 1 ≤ l.length) (h8 : l.length ≤ 8) (hc : Hid (∀ i (h : i < l.length), w.cell? ⟨g, off + i, none⟩ = some (.int .u8 l[i]))) (hr : Hid (M.get l = r)) :
    Calls Try.prog 22 #[.slice (some ⟨g, off, none⟩) l.length cap] w fun e w' => e = .returned (.tuple #[.int .u64 r, .int .i64 0]) ∧ w = w' := by
  go_enter Try.func22, Try.ntmps22
  go_wp2_with fail
  go_loop [4, 5] (fun t i => ∃ (j x : Int), -1 ≤ j ∧ j < l.length ∧ i = .int .i64 j ∧ t = .int .u64 x ∧ Hid (M.get (l.drop (j + 1).toNat) = x)) (fun _ i => (intOf i + 1).toNat)
  case atStart => exact ⟨(l.length : Int) - 1, 0, by omega, by omega, rfl, rfl, Lib.hid (by rw [show ((l.length : Int) - 1 + 1).toNat = l.length by omega, List.drop_length]; rfl)⟩
  case round =>
    obtain ⟨j, x, hj0, hj1, rfl, rfl, hx⟩ := hrel
    by_cases hlt : 0 ≤ j
    · obtain ⟨k, rfl⟩ := Int.eq_ofNat_of_zero_le hlt
      have hk : k < l.length := by omega
      obtain ⟨c, hcv⟩ : ∃ c, l[k] = c := ⟨_, rfl⟩
      have hck := hc.out k hk
      rw [hcv] at hck
      have hcb := hb.out.at_ k hk
      rw [hcv] at hcb
      obtain ⟨hcb0, hcb1⟩ := hcb
      have hnext := Lib.hid (M.get_drop l k hk)
      have hr1 := M.get_small (l.drop (k + 1)) (hb.out.drop _) (by rw [List.length_drop]; omega)
      have hr2 := M.get_small (l.drop k) (hb.out.drop _) (by rw [List.length_drop]; omega)
      rw [hnext.out] at hr2
      rw [hcv] at hnext hr2
      have hx2 := hx.out
      rw [show ((k : Int) + 1).toNat = k + 1 by omega] at hx2
      rw [hx2] at hnext hr1 hr2
      obtain ⟨hr10, hr11⟩ := hr1
      obtain ⟨hr20, hr21⟩ := hr2
      clear hcv hx2
      go_wp2_with fail
      go_round
      case rel => exact ⟨(k : Int) - 1, 256 * x + c, by omega, by omega, by go_num, by go_num, Lib.hid (by rw [show ((k : Int) - 1 + 1).toNat = k by omega]; exact hnext.out)⟩
      case measure => (try simp [intOf]); try omega
    · obtain rfl : j = -1 := by omega
      go_wp2_with fail
      go_ret2
      exact ⟨ret_get (by rw [← hx.out]; exact hr.out) rfl, rfl⟩
theorem refGet_is (v : Value) (l : List Int) (r1 r2 : Int) (w : World) (h : BytesAt w v l) (hm : l.length ≤ 1000) (hr : Hid (getOf l = (r1, r2))) :
    Calls Try.prog 22 #[v] w fun e w' => e = .returned (.tuple #[.int .u64 r1, .int .i64 r2]) ∧ w = w' := by
  obtain ⟨a, cap, rfl, _, hb, hc⟩ := h
  by_cases h1 : 1 ≤ l.length ∧ l.length ≤ 8
  · obtain ⟨g, off, rfl, _, hcell⟩ := hc (by omega)
    have hx := hr.out
    rw [getOf_ok l h1.1 h1.2] at hx
    injection hx with e1 e2
    subst e2
    exact refGet_ok g off cap l r1 w (Lib.hid hb) h1.1 h1.2 (Lib.hid hcell) (Lib.hid e1)
  · have hx := hr.out
    rw [getOf_bad l h1] at hx
    injection hx with e1 e2
    subst e1; subst e2
    exact refGet_bad a l.length cap w h1 hm

end Go.Proofs.Ytmdolblcffnkcaa
