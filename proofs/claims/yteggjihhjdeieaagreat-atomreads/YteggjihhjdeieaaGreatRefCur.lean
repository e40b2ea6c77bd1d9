/- The contracts of Read and Done of the reference's cursor. -/
import Derived.Test.YteggjihhjdeieaaGreatRefReadC
import Derived.Test.YteggjihhjdeieaaGreatRefReadD
namespace Go.Proofs.YteggjihhjdeieaaGreat
open Go.RowKit

theorem refRead_is (g : Nat) (R : Option Nat) (e : Int) (p : Pc) (l : List Int) (w : World) (h : RefAt w g R e l) (hp : p.Ok w) :
    Calls Tryz.prog 29 #[.pointer (some ⟨g, 0, none⟩), .agg p.cells.toArray] w (RefsP w g R p.d (M.gate e (M.rd p.d p.x p.n l))) := by
  obtain ⟨v, hc, hel, hl⟩ := h
  by_cases he : e = 0
  · subst he
    rw [M.gate_ok]
    unfold M.rd
    by_cases h0 : p.d = 0
    · rw [if_pos h0]
      cases hr : M.rNum p.x l with
      | bad e => exact ref0_bad g R p v l e w hc hp h0 (Lib.hid hr) (rNum_err hr)
      | got x rest => exact ref0_got g R p v l x rest w hc hp h0 (Lib.hid hr) hl
    · rw [if_neg h0]
      by_cases h1 : p.d = 1
      · rw [if_pos h1]
        cases l with
        | nil => exact ref1_bad g R p v w hc hp h1
        | cons c r => exact ref1_got g R p v c r w hc hp h1 hl
      · rw [if_neg h1]
        by_cases h2 : p.d = 2
        · rw [if_pos h2]
          cases l with
          | nil => exact ref2_empty g R p v w hc hp h2
          | cons c r =>
            have hcb := hc.2.1.1.bytes c (List.mem_cons_self ..)
            have hl' : r.length + 1 ≤ 30000 := hl
            rw [M.rName_cons]
            by_cases h8 : 8 < c
            · rw [if_pos h8]
              exact ref2_big g R p v c r w hc hp h2 hcb.1 hcb.2 h8
            · rw [if_neg h8]
              by_cases hs : (r.length : Int) < c
              · rw [if_pos hs]
                exact ref2_short g R p v c r w hc hp h2 hcb.1 h8 hs
              · rw [if_neg hs]
                obtain ⟨k, rfl⟩ := Int.eq_ofNat_of_zero_le hcb.1
                rw [Int.toNat_natCast]
                by_cases hk0 : k = 0
                · rw [if_neg (fun hh => by omega)]
                  exact ref2_none g R p v k r w hc hp h2 hk0 (by omega) (by omega) hl'
                · obtain ⟨b, hb⟩ : ∃ b, M.isN (r.take k) = b := ⟨_, rfl⟩
                  cases b with
                  | false =>
                    rw [if_pos ⟨by omega, hb⟩]
                    exact ref2_wrong g R p v k r w hc hp h2 (by omega) (by omega) (by omega) (Lib.hid hb)
                  | true =>
                    rw [if_neg (fun hh => by rw [hb] at hh; exact absurd hh.2 (by decide))]
                    exact ref2_word g R p v k r w hc hp h2 (by omega) (by omega) (by omega) hl' (Lib.hid hb)
        · rw [if_neg h2]
          have hm : (0 ≤ p.n ∧ max p.n 0 = p.n) ∨ (p.n < 0 ∧ max p.n 0 = 0) := by omega
          unfold M.rBytes
          cases hr : M.rNum (max p.n 0) l with
          | bad e => exact ref3_num g R p v l e (max p.n 0) w hc hp h0 h1 h2 hm (Lib.hid hr) (rNum_err hr)
          | got x rest =>
            have hrl := Nat.le_trans (rNum_len hr) hl
            have hx := rNum_range hc.2.1.1.bytes hr
            show Calls Tryz.prog 29 _ w (RefsP w g R p.d ((M.rCut x rest).map fun b => (⟨0, 0, M.zero8, b⟩ : M.Val)))
            unfold M.rCut
            by_cases hs : (rest.length : Int) < x
            · rw [if_pos hs]
              exact ref3_short g R p v l x (max p.n 0) rest w hc hp h0 h1 h2 hm (Lib.hid hr) hrl hs
            · rw [if_neg hs]
              obtain ⟨k, rfl⟩ := Int.eq_ofNat_of_zero_le hx.1
              rw [Int.toNat_natCast]
              exact ref3_got g R p v l k (max p.n 0) rest w hc hp h0 h1 h2 hm (Lib.hid hr) hrl (by omega)
  · obtain rfl := hel he
    rw [M.gate_bad he]
    exact ref_spent g R e p v w hc hp he
theorem RefAt.below {w w' : World} {g : Nat} {R : Option Nat} {e : Int} {l : List Int} (h : RefAt w g R e l) (hb : Below w.heap.size w w') : RefAt w' g R e l := by
  obtain ⟨v, h1, h2⟩ := h
  exact ⟨v, h1.below hb, h2⟩
theorem RefAt.only {w w' : World} {g x : Nat} {R : Option Nat} {e : Int} {l : List Int} (h : RefAt w g R e l) (ho : Only x w w') (hg : g ≠ x) (hR : R ≠ some x) : RefAt w' g R e l := by
  obtain ⟨v, h1, h2⟩ := h
  exact ⟨v, h1.only ho hg hR, h2⟩
theorem curErr_is (g : Nat) (R : Option Nat) (e : Int) (l : List Int) (w : World) (h : CurAt w g R e l) :
    Calls Tryz.prog 14 #[.pointer (some ⟨g, 0, none⟩)] w fun r w' => r = .returned (.int .i64 e) ∧ w = w' := by
  obtain ⟨v, lv, hc, _⟩ := h
  exact err_is g e v w hc.1
theorem curLeft_is (g : Nat) (R : Option Nat) (e : Int) (l : List Int) (w : World) (h : CurAt w g R e l) :
    Calls Tryz.prog 15 #[.pointer (some ⟨g, 0, none⟩)] w fun r w' => r = .returned (.int .i64 l.length) ∧ w = w' := by
  obtain ⟨v, lv, hc, hl, h1, h2⟩ := h
  by_cases he : e = 0
  · subst he
    obtain rfl := h1 rfl
    exact left_ok g R v lv w hc
  · obtain rfl := h2 he
    exact left_bad g e v w hc.1 he
end Go.Proofs.YteggjihhjdeieaaGreat
