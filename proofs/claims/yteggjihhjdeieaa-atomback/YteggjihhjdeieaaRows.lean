/-
  No cell of these rows narrows 'for every input' (looked for: loops, veiled, ifaces, maps, wideKeys, modest, calm, conditions, laid).
  DERIVED. THE GIVEN ROWS OF THIS SEAT. 3 by the template 'for every input the law returns true; each argument reads behind the call as it read before'; 0 by the template 'total and deterministic' (their statements: YteggjihhjdeieaaTotals.lean).
  GIVEN WITH THE SEED: the statements are not yours to turn. If you find one false, say at which input.
  Laid BY PROGRAM, IN A SANDBOX (cutbox-rows.mjs): the forced cells as the released guide's own fill.sh prints them over the translation 45dcb278be8b43bf… (all of the seat's roots in one cut). By AI agents, Wed Nov 11 2026. No macro, syntax, notation, axiom, sorry.
-/
import Derived.Test.YteggjihhjdeieaaChecked
import GoSem.Claim
import GoSem.ClaimJoined
import GoSem.ClaimMapViews
import Derived.JoinedTies
import Derived.KernelRfl
namespace Go.Proofs.Yteggjihhjdeieaa
/- THE CELL 'sum', in the pinned program and in every row, IS THE sha256 OF THE DUMP (.gsa) THAT YteggjihhjdeieaaProg.lean LOADS. Nothing in Lean hashes anything: it is a label: what it is worth is what the hold of that sum in a sandbox is worth. -/
noncomputable def Try.pinned : Pinned := { name := "yteggjihhjdeieaa", sum := "45dcb278be8b43bfa6285aaa686ecf47e1af2913230d4c48b70f2e5d2ec6bf46", checked := Try.checked }
namespace Rows
def none {H : Type} : Left H := { results := [], args := [] }

/-- 'handcartlaw09.AtomOvers': WHATEVER THE INPUT: true; the input reads as it did. -/
def atomOversSpec : ChangeSpec := { name := "atomOvers", fn := fun _ => fun
  | [d1, d2, d3] => { results := [.lit (.bool true)], args := [d1, d2, d3] }
  | _ => none }
def atomOversRow : OpenClaim := { program := "yteggjihhjdeieaa", sum := "45dcb278be8b43bfa6285aaa686ecf47e1af2913230d4c48b70f2e5d2ec6bf46", func := "handcart/handcartlaw09.AtomOvers", spec := "atomOvers", inPlace := ["internal/bytealg.IndexByte", "internal/bytealg.Index"], unfollowed := true, recurses := true, named := ["internal/bytealg.MaxLen"], apart := false }
def AtomOversSaid : Prop := atomOversRow.holds Try.pinned (OpenSpec.ofChange atomOversSpec)

/-- ITS FALSE NEIGHBOUR: 'it returns false'. Refute it at one input. -/
def atomOversWrong : ChangeSpec := { name := "atomOvers", fn := fun _ => fun
  | [d1, d2, d3] => { results := [.lit (.bool false)], args := [d1, d2, d3] }
  | _ => none }
def AtomOversWrongFalsely : Prop := atomOversRow.holds Try.pinned (OpenSpec.ofChange atomOversWrong)

/-- 'handcartlaw09.AtomStamps': WHATEVER THE INPUT: true; the input reads as it did. -/
def atomStampsSpec : ChangeSpec := { name := "atomStamps", fn := fun _ => fun
  | [d1, d2, d3] => { results := [.lit (.bool true)], args := [d1, d2, d3] }
  | _ => none }
def atomStampsRow : OpenClaim := { program := "yteggjihhjdeieaa", sum := "45dcb278be8b43bfa6285aaa686ecf47e1af2913230d4c48b70f2e5d2ec6bf46", func := "handcart/handcartlaw09.AtomStamps", spec := "atomStamps", inPlace := ["internal/bytealg.IndexByte", "internal/bytealg.Index"], unfollowed := true, recurses := true, named := ["internal/bytealg.MaxLen"], apart := false }
def AtomStampsSaid : Prop := atomStampsRow.holds Try.pinned (OpenSpec.ofChange atomStampsSpec)

/-- ITS FALSE NEIGHBOUR: 'it returns false'. Refute it at one input. -/
def atomStampsWrong : ChangeSpec := { name := "atomStamps", fn := fun _ => fun
  | [d1, d2, d3] => { results := [.lit (.bool false)], args := [d1, d2, d3] }
  | _ => none }
def AtomStampsWrongFalsely : Prop := atomStampsRow.holds Try.pinned (OpenSpec.ofChange atomStampsWrong)

/-- 'handcartlaw09.AtomBack': WHATEVER THE INPUT: true; the input reads as it did. -/
def atomBackSpec : ChangeSpec := { name := "atomBack", fn := fun _ => fun
  | [d1, d2, d3] => { results := [.lit (.bool true)], args := [d1, d2, d3] }
  | _ => none }
def atomBackRow : OpenClaim := { program := "yteggjihhjdeieaa", sum := "45dcb278be8b43bfa6285aaa686ecf47e1af2913230d4c48b70f2e5d2ec6bf46", func := "handcart/handcartlaw09.AtomBack", spec := "atomBack", inPlace := ["internal/bytealg.IndexByte", "internal/bytealg.Index"], unfollowed := true, recurses := true, named := ["internal/bytealg.MaxLen"], apart := false }
def AtomBackSaid : Prop := atomBackRow.holds Try.pinned (OpenSpec.ofChange atomBackSpec)

/-- ITS FALSE NEIGHBOUR: 'it returns false'. Refute it at one input. -/
def atomBackWrong : ChangeSpec := { name := "atomBack", fn := fun _ => fun
  | [d1, d2, d3] => { results := [.lit (.bool false)], args := [d1, d2, d3] }
  | _ => none }
def AtomBackWrongFalsely : Prop := atomBackRow.holds Try.pinned (OpenSpec.ofChange atomBackWrong)

/- THE SECOND FORM. 'bulk': how many values and letters a reading holds, each counted each time it is reached (what is shared counts as often as it is met; a slice's spare places count too). A statement '..UptoSaid' is the law's where the arguments, and the package variables that the reading takes, are together of bulk at most 1048576: NARROWER than '..Said'. Prove '..Said' where nothing that the law and all that it calls make is longer than what came in: it says more and counts as full. Else prove '..UptoSaid'. A law counts once. -/
mutual
def uptoBulk {H : Type} : DataW H → Nat
  | .lit (.string bytes) => bytes.length + 1
  | .lit _ => 1
  | .nil => 1
  | .ptr d => uptoBulk d + 1
  | .slice elems spare => uptoBulkAll elems + uptoBulkAll spare + 1
  | .agg parts => uptoBulkAll parts + 1
  | .iface _ d => uptoBulk d + 1
  | .map entries => uptoBulkEntries entries + 1
  | .held _ => 1
def uptoBulkAll {H : Type} : List (DataW H) → Nat
  | [] => 0
  | d :: r => uptoBulk d + uptoBulkAll r
def uptoBulkEntries {H : Type} : List (Lit × DataW H) → Nat
  | [] => 0
  | x :: r => uptoBulkEntry x + uptoBulkEntries r
def uptoBulkEntry {H : Type} : Lit × DataW H → Nat
  | (.string bytes, d) => bytes.length + uptoBulk d + 1
  | (_, d) => uptoBulk d + 1
 end
def uptoSmall : (H : Type) → List (DataW H) → Bool := fun _ ds => decide (uptoBulkAll ds ≤ 1048576)
def OpenSpec.upto (s : _root_.Go.ChangeSpec) : _root_.Go.OpenSpec := { _root_.Go.OpenSpec.ofChange s with cond := some uptoSmall }

/-- 'handcartlaw09.AtomOvers', WHERE WHAT IT READS IS OF BULK AT MOST 1048576: true; the input reads as it did. -/
def atomOversUptoRow : OpenClaim := { program := "yteggjihhjdeieaa", sum := "45dcb278be8b43bfa6285aaa686ecf47e1af2913230d4c48b70f2e5d2ec6bf46", func := "handcart/handcartlaw09.AtomOvers", spec := "atomOvers", inPlace := ["internal/bytealg.IndexByte", "internal/bytealg.Index"], unfollowed := true, recurses := true, named := ["internal/bytealg.MaxLen"], apart := false, narrowed := true }
def AtomOversUptoSaid : Prop := atomOversUptoRow.holds Try.pinned (OpenSpec.upto atomOversSpec)

/-- 'handcartlaw09.AtomStamps', WHERE WHAT IT READS IS OF BULK AT MOST 1048576: true; the input reads as it did. -/
def atomStampsUptoRow : OpenClaim := { program := "yteggjihhjdeieaa", sum := "45dcb278be8b43bfa6285aaa686ecf47e1af2913230d4c48b70f2e5d2ec6bf46", func := "handcart/handcartlaw09.AtomStamps", spec := "atomStamps", inPlace := ["internal/bytealg.IndexByte", "internal/bytealg.Index"], unfollowed := true, recurses := true, named := ["internal/bytealg.MaxLen"], apart := false, narrowed := true }
def AtomStampsUptoSaid : Prop := atomStampsUptoRow.holds Try.pinned (OpenSpec.upto atomStampsSpec)

/-- 'handcartlaw09.AtomBack', WHERE WHAT IT READS IS OF BULK AT MOST 1048576: true; the input reads as it did. -/
def atomBackUptoRow : OpenClaim := { program := "yteggjihhjdeieaa", sum := "45dcb278be8b43bfa6285aaa686ecf47e1af2913230d4c48b70f2e5d2ec6bf46", func := "handcart/handcartlaw09.AtomBack", spec := "atomBack", inPlace := ["internal/bytealg.IndexByte", "internal/bytealg.Index"], unfollowed := true, recurses := true, named := ["internal/bytealg.MaxLen"], apart := false, narrowed := true }
def AtomBackUptoSaid : Prop := atomBackUptoRow.holds Try.pinned (OpenSpec.upto atomBackSpec)

end Rows
end Go.Proofs.Yteggjihhjdeieaa
