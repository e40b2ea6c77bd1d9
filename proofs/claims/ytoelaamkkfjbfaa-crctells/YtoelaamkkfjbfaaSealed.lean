/- The contracts of Seal of package crc and of Seal of the reference. -/
import Derived.Test.YtoelaamkkfjbfaaSeal
import Derived.Test.YtoelaamkkfjbfaaConcat
import Derived.Test.YtoelaamkkfjbfaaRefMore
import Derived.Deep.Onto
namespace Go.Proofs.Ytoelaamkkfjbfaa
open Go.RowKit

def sealI (l : List Int) : List Int := l ++ [S (sumV l) / 256, S (sumV l) % 256]
theorem seal_len (l : List Int) : (sealI l).length = l.length + 2 := by simp [sealI]
theorem pair_bytes (s : Int) (h0 : 0 ≤ s) (h1 : s < 65536) : M.Bytes [s / 256, s % 256] := fun y hy => by
  rcases List.mem_cons.1 hy with rfl | hy
  · omega
  · obtain rfl := List.mem_singleton.1 hy; omega
theorem seal_bytes {l : List Int} (h : M.Bytes l) : M.Bytes (sealI l) := h.app (pair_bytes _ (S_range _).1 (S_range _).2)
theorem two_bytes {w : World} {g : Nat} {a b : Int} (h : w.rowIs g 5 2 (two a b)) (hb : M.Bytes [a, b]) : BytesAt w (.slice (some ⟨g, 0, none⟩) 2 2) [a, b] :=
  ⟨_, _, rfl, ⟨Nat.le_refl _, fun h => by cases h⟩, hb, fun _ => ⟨g, 0, rfl, h.lt, fun i hi => by
    rw [Nat.zero_add, h.cell hi]
    have : i = 0 ∨ i = 1 := by simp at hi; omega
    rcases this with rfl | rfl <;> rfl⟩⟩
theorem seal_is (u : Value) (l : List Int) (w : World) (h : BytesAt w u l) (hl : l.length ≤ 400) : Calls Try.prog 13 #[u] w (GivesOwn w (sealI l)) := by
  have hr := S_range (sumV l)
  have hsl : sealI l = l ++ [S (sumV l) / 256, S (sumV l) % 256] := rfl
  obtain ⟨r, hrr⟩ : ∃ r, S (sumV l) = r := ⟨_, rfl⟩
  rw [hrr] at hr hsl
  obtain ⟨hr0, hr1⟩ := hr
  have HS := Lib.hid hrr
  have H := Lib.hid h
  have HSL := Lib.hid hsl
  clear hrr hsl
  obtain ⟨a, cap, rfl, -, -, -⟩ := h
  go_enter Try.func13, Try.ntmps13
  go_wp2_with fail
  refine (sum_is _ l r _ H.out (by omega) HS).mono ?_
  rintro e w1 ⟨rfl, b1⟩
  have B1 := Lib.hid b1
  clear b1
  go_wp2_with fail
  refine (put2_is r _ hr0 hr1).mono ?_
  rintro e w2 ⟨g, rfl, hg, hrow, b2⟩
  have HR := Lib.hid hrow
  have B2 := Lib.hid (B1.out.trans (b2.mono B1.out.size))
  have HG := Lib.hid (Nat.le_trans B1.out.size hg)
  clear hrow b2 hg B1
  go_wp2_with fail
  refine (rev2_is g _ _ _ HR.out).mono ?_
  rintro e w3 ⟨rfl, hrow3, b3⟩
  have HR3 := Lib.hid hrow3
  have B3 := Lib.hid (B2.out.trans (b3.mono HG.out))
  clear hrow3 b3 B2 HR
  go_wp2_with fail
  refine (concat_is w3.heap.size _ _ l [r / 256, r % 256] _ (by simp) (Lib.hid (by simp)) (Lib.hid (by simp)) ((H.out.below B3.out).below ((Below.refl _ w3).alloc (Nat.le_refl _) _)) ((two_bytes HR3.out (pair_bytes r hr0 hr1)).below ((Below.refl _ w3).alloc (Nat.le_refl _) _)) hl rfl).mono ?_
  rintro e w4 ⟨v, rfl, hown, b4⟩
  have hsz := B3.out.size
  have HO := Lib.hid (hown.mono (show w.heap.size ≤ (w3.alloc (.cells #[.slice a l.length cap, .slice (some ⟨g, 0, none⟩) 2 2] 22)).heap.size by simp; omega))
  have B4 := Lib.hid ((B3.out.alloc B3.out.size (.cells #[.slice a l.length cap, .slice (some ⟨g, 0, none⟩) 2 2] 22)).trans (b4.mono (by simp; omega)))
  clear hown b4
  go_wp2_with fail
  go_ret
  exact ⟨_, rfl, by rw [HSL.out]; exact HO.out, B4.out⟩
theorem pair_at (w : World) (a b : Int) (h : M.Bytes [a, b]) : BytesAt (w.alloc (.cells #[.int .u8 a, .int .u8 b] 5)) (.slice (some ⟨w.heap.size, 0, none⟩) 2 2) [a, b] :=
  bytes_of_owns (B := w.heap.size) (World.ownsRow_lit w #[.int .u8 a, .int .u8 b] 2 (Nat.le_refl _) (by decide) rfl) h
theorem refSeal_is (u : Value) (l : List Int) (w : World) (h : BytesAt w u l) (hl : l.length ≤ 400) : Calls Try.prog 14 #[u] w (GivesOwn w (sealI l)) := by
  have hr := S_range (sumV l)
  have hsl : sealI l = l ++ [S (sumV l) / 256, S (sumV l) % 256] := rfl
  obtain ⟨r, hrr⟩ : ∃ r, S (sumV l) = r := ⟨_, rfl⟩
  rw [hrr] at hr hsl
  obtain ⟨hr0, hr1⟩ := hr
  have HS := Lib.hid hrr
  have H := Lib.hid h
  have HSL := Lib.hid hsl
  clear hrr h hsl
  go_enter Try.func14, Try.ntmps14
  go_wp2_with fail
  refine (refSum_is u l r _ H.out (by omega) HS).mono ?_
  rintro e w1 ⟨rfl, rfl⟩
  have HE := Lib.hid (owns_empty w w.heap.size (Nat.le_refl _))
  have HV := Lib.hid (H.out.below ((Below.refl _ w).alloc (Nat.le_refl _) (.cells #[] 5)))
  have BE := Lib.hid ((Below.refl _ w).alloc (Nat.le_refl _) (.cells #[] 5))
  have e1 : r.tdiv 256 = r / 256 := Int.tdiv_eq_ediv_of_nonneg hr0
  have e2 : IntKind.u16.wrap (r / 256) = r / 256 := by rw [IntKind.wrap_u16]; omega
  have e3 : r / 256 % 256 = r / 256 := by omega
  go_wp2_with (first | (at_builtin; refine app_bytes _ rfl (.tmp 6) (.tmp 7) rfl w.heap.size _ _ [] l rfl HE.out rfl HV.out (by simp; omega) BE.out.size ?_; intro v2 w2 hown2 b2; have HO2 := Lib.hid (hown2.alloc (.cells #[.int .u8 (r / 256), .int .u8 (r % 256)] 5)); have B2 := Lib.hid ((BE.out.trans b2).alloc (BE.out.trans b2).size (.cells #[.int .u8 (r / 256), .int .u8 (r % 256)] 5)); clear hown2 b2) | (at_builtin; refine app_bytes _ rfl (.tmp 8) (.tmp 15) rfl w.heap.size _ _ ([] ++ l) [r / 256, r % 256] rfl HO2.out rfl (pair_at w2 _ _ (pair_bytes r hr0 hr1)) (by simp; omega) B2.out.size ?_; intro v3 w3 hown3 b3; have HO3 := Lib.hid hown3; have B3 := Lib.hid (B2.out.trans b3); clear hown3 b3))
  go_ret
  exact ⟨_, rfl, by rw [HSL.out]; exact HO3.out, B3.out⟩
end Go.Proofs.Ytoelaamkkfjbfaa
