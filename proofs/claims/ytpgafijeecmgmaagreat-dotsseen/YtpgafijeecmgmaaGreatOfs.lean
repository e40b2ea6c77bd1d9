/- The contract of Bump. The contracts of Of of package vec and of the reference. The contract of Of of the reference. -/
import Derived.Test.YtpgafijeecmgmaaGreatJoins
import Derived.Test.YtpgafijeecmgmaaGreatMathV
import Derived.Test.YtpgafijeecmgmaaGreatLeq
namespace Go.Proofs.YtpgafijeecmgmaaGreat
open Go.RowKit

/-- What Bump answers. -/
def bumpE (l : List Int) (k : Nat) : Int := if 16 ≤ k then 1 else if l.getD k 0 = 4294967295 then 8 else 0
def bumpV (l : List Int) (k : Nat) : List Int := if 16 ≤ k then vz else if l.getD k 0 = 4294967295 then vz else l.set k (l.getD k 0 + 1)
theorem wrap_u32 {x : Int} (h0 : 0 ≤ x) (h1 : x < 4294967296) : IntKind.u32.wrap x = x := by
  show (x % 4294967296 : Int) = x
  omega
theorem bumpV_len {l : List Int} (h : l.length = 16) (k : Nat) : (bumpV l k).length = 16 := by
  unfold bumpV; split
  · rfl
  · split
    · rfl
    · rw [List.length_set]; exact h
end Go.Proofs.YtpgafijeecmgmaaGreat
namespace Go.Proofs.YtpgafijeecmgmaaGreat
open Go.RowKit Go.Shelf
attribute [local go_sem] Oper.semAt_some

theorem vup_no {v : List Int} {k : Ky} (h : k.s ≠ 1) : vup v k = v := by unfold vup; rw [if_neg h]
theorem vup_gt {v : List Int} {k : Ky} {r : Nat} {x : Int} (h : k.s = 1) (hr : k.r = (r : Int)) (hx : v[r]? = some x) (hlt : x < k.q) : v.set r k.q = vup v k := by
  unfold vup
  rw [if_pos h, hr, Int.toNat_natCast, List.getD_eq_getElem?_getD, hx, Option.getD_some]
  unfold mx; rw [if_pos hlt]
theorem vup_le {v : List Int} {k : Ky} {r : Nat} {x : Int} (h : k.s = 1) (hr : k.r = (r : Int)) (hx : v[r]? = some x) (hlt : ¬ x < k.q) : v = vup v k ∧ v.set r x = vup v k := by
  have e : v.set r x = v := by
    apply List.ext_getElem?
    intro i
    by_cases hi : i = r
    · subst hi; rw [List.getElem?_set_self (List.getElem?_eq_some_iff.1 hx).1, hx]
    · rw [List.getElem?_set_ne (by omega)]
  have e2 : v.set r x = vup v k := by
    unfold vup
    rw [if_pos h, hr, Int.toNat_natCast, List.getD_eq_getElem?_getD, hx, Option.getD_some]
    unfold mx; rw [if_neg hlt]
  exact ⟨by rw [← e2, e], e2⟩
theorem vup_max {v : List Int} {k : Ky} {r : Nat} {x : Int} (h : k.s = 1) (hr : k.r = (r : Int)) (hx : v[r]? = some x) : v.set r (max x k.q) = vup v k := by
  by_cases hlt : x < k.q
  · rw [← vup_gt h hr hx hlt, Int.max_eq_right (by omega)]
  · rw [← (vup_le h hr hx hlt).2, Int.max_eq_left (by omega)]
/-- A row of atoms lies in no block of a vector. -/
theorem ofs_keep {w w' : World} {A : Option Addr} {n cap g : Nat} {l : List Am} {v : List Int} (h : RowV w A n cap l) (ho : Only g w w') (hb : Blk w g 26 (vc v)) : RowV w' A n cap l :=
  ⟨h.ok, h.len, h.le, h.most, fun h0 => by
    obtain ⟨G, off, ha, hG, hr⟩ := h.at_ h0
    have hne : G ≠ g := by
      rintro rfl
      have h1 := hr 0 (by rw [h.len]; exact h0) 0 _ (by rw [Am.cells, List.getElem?_append_left (by rw [kcells_len (h.ok _ (List.getElem_mem _)).k.ml]; omega)]; exact kc0 _)
      rw [cell_of_row _ G _ _ 26 (0, 0) hb] at h1
      obtain ⟨hi, e⟩ := Array.getElem?_eq_some_iff.1 h1
      simp [vc] at e
    refine ⟨G, off, ha, Nat.lt_of_lt_of_le hG ho.size, fun i hi j v hv => ?_⟩
    have h1 := hr i hi j v hv
    unfold World.cell? at *
    rw [show w'.heap[(⟨G, off + i * 21 + j, none⟩ : Addr).block]? = w.heap[(⟨G, off + i * 21 + j, none⟩ : Addr).block]? from ho.block G hG hne]
    exact h1⟩
/-- What a round of Of finds and leaves. -/
def OM (g : Nat) (w0 : World) (v : List Int) (V : World) : Prop := Blk V g 26 (vc v) ∧ Only g w0 V
end Go.Proofs.YtpgafijeecmgmaaGreat
namespace Go.Proofs.YtpgafijeecmgmaaGreat
open Go.RowKit

theorem refofs_keep {w w' : World} {A : Option Addr} {n cap g : Nat} {l : List Am} {v : List Int} (h : RowV w A n cap l) (ho : Only g w w') (hb : Blk w g 25 (vc v)) : RowV w' A n cap l :=
  ⟨h.ok, h.len, h.le, h.most, fun h0 => by
    obtain ⟨G, off, ha, hG, hr⟩ := h.at_ h0
    have hne : G ≠ g := by
      rintro rfl
      have h1 := hr 0 (by rw [h.len]; exact h0) 0 _ (by rw [Am.cells, List.getElem?_append_left (by rw [kcells_len (h.ok _ (List.getElem_mem _)).k.ml]; omega)]; exact kc0 _)
      rw [cell_of_row _ G _ _ 25 (0, 0) hb] at h1
      obtain ⟨hi, e⟩ := Array.getElem?_eq_some_iff.1 h1
      simp [vc] at e
    refine ⟨G, off, ha, Nat.lt_of_lt_of_le hG ho.size, fun i hi j v hv => ?_⟩
    have h1 := hr i hi j v hv
    unfold World.cell? at *
    rw [show w'.heap[(⟨G, off + i * 21 + j, none⟩ : Addr).block]? = w.heap[(⟨G, off + i * 21 + j, none⟩ : Addr).block]? from ho.block G hG hne]
    exact h1⟩
theorem only_drewN {g : Nat} {a w : World} (h : Only g a w) : ∀ n, Only g a (w.drewN n)
  | 0 => h
  | n + 1 => (only_drewN h n).drew
end Go.Proofs.YtpgafijeecmgmaaGreat
