/- The contracts of Read and Done of the reference's cursor. -/
import Derived.Test.YteggjihhjdeieaaRefRead
import Derived.Test.YteggjihhjdeieaaRefReadB
namespace Go.Proofs.Yteggjihhjdeieaa
open Go.RowKit

theorem curErr_is (g : Nat) (R : Option Nat) (e : Int) (l : List Int) (w : World) (h : CurAt w g R e l) :
    Calls Try.prog 23 #[.pointer (some ⟨g, 0, none⟩)] w fun r w' => r = .returned (.int .i64 e) ∧ w = w' := by
  obtain ⟨v, lv, hc, _⟩ := h
  exact err_is g e v w hc.1
theorem curLeft_is (g : Nat) (R : Option Nat) (e : Int) (l : List Int) (w : World) (h : CurAt w g R e l) :
    Calls Try.prog 24 #[.pointer (some ⟨g, 0, none⟩)] w fun r w' => r = .returned (.int .i64 l.length) ∧ w = w' := by
  obtain ⟨v, lv, hc, hl, h1, h2⟩ := h
  by_cases he : e = 0
  · subst he
    obtain rfl := h1 rfl
    exact left_ok g R v lv w hc
  · obtain rfl := h2 he
    exact left_bad g e v w hc.1 he
end Go.Proofs.Yteggjihhjdeieaa
