/- The contracts of Norm, Find and Same of the reference. -/
import Derived.Test.YtpgafijeecmgmaaReadys
import Derived.Test.YtpgafijeecmgmaaLists
import Derived.Test.YtpgafijeecmgmaaRefLess
import Derived.Test.YtpgafijeecmgmaaRefARight
namespace Go.Proofs.Ytpgafijeecmgmaa
open Go.RowKit

theorem norm_len_from : ∀ (l s : List Am), (l.foldl putR s).length ≤ s.length + l.length
  | [], s => by simp
  | a :: l, s => by
    have h1 := norm_len_from l (putR s a)
    have h2 : (putR s a).length ≤ s.length + 1 := by
      unfold putR
      split
      · exact put_len s a
      · omega
    simp only [List.foldl_cons, List.length_cons]
    omega
theorem norm_len (l : List Am) : (norm l).length ≤ l.length := by have := norm_len_from l []; rw [List.length_nil, Nat.zero_add] at this; exact this
theorem okR_take {l : List Am} (h : OkR l) (j : Nat) : OkR (l.take j) := h.sub (fun _ ha => List.mem_of_mem_take ha)
theorem rowV_nil (w : World) : RowV w none 0 0 [] := ⟨okR_nil, rfl, Nat.le_refl _, Nat.zero_le _, fun h => absurd h (Nat.lt_irrefl _)⟩
end Go.Proofs.Ytpgafijeecmgmaa
