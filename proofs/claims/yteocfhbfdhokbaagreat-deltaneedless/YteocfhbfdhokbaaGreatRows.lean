/-
  No cell of these rows narrows 'for every input' (looked for: loops, veiled, ifaces, maps, wideKeys, modest, calm, conditions, laid).
  DERIVED. THE GIVEN ROWS OF THIS SEAT. 3 by the template 'for every input the law returns true; each argument reads behind the call as it read before'; 0 by the template 'total and deterministic' (their statements: YteocfhbfdhokbaaGreatTotals.lean).
  GIVEN WITH THE SEED: the statements are not yours to turn. If you find one false, say at which input.
  Laid BY PROGRAM, IN A SANDBOX (cutbox-rows.mjs): the forced cells as the released guide's own fill.sh prints them over the translation 94ee237ce5a25933… (all of the seat's roots in one cut). By AI agents, Wed Nov 11 2026. No macro, syntax, notation, axiom, sorry.
-/
import Derived.Test.YteocfhbfdhokbaaGreatChecked
import GoSem.Claim
import GoSem.ClaimJoined
import GoSem.ClaimMapViews
import Derived.JoinedTies
import Derived.KernelRfl
namespace Go.Proofs.YteocfhbfdhokbaaGreat
/- THE CELL 'sum', in the pinned program and in every row, IS THE sha256 OF THE DUMP (.gsa) THAT YteocfhbfdhokbaaGreatProg.lean LOADS. Nothing in Lean hashes anything: it is a label: what it is worth is what the hold of that sum in a sandbox is worth. -/
noncomputable def Tryz.pinned : Pinned := { name := "yteocfhbfdhokbaagreat", sum := "94ee237ce5a25933574b15af0ed0cb391f1dcabd94e1e6c3c84c4ed705dce1e3", checked := Tryz.checked }
namespace Rows
def none {H : Type} : Left H := { results := [], args := [] }

/-- 'handcartlaw11.DeltaNeedless': WHATEVER THE INPUT: true; the input reads as it did. -/
def deltaNeedlessSpec : ChangeSpec := { name := "deltaNeedless", fn := fun _ => fun
  | [d] => { results := [.lit (.bool true)], args := [d] }
  | _ => none }
def deltaNeedlessRow : OpenClaim := { program := "yteocfhbfdhokbaagreat", sum := "94ee237ce5a25933574b15af0ed0cb391f1dcabd94e1e6c3c84c4ed705dce1e3", func := "handcart/handcartlaw11.DeltaNeedless", spec := "deltaNeedless", inPlace := ["internal/bytealg.IndexByte", "internal/bytealg.Index"], unfollowed := true, recurses := true, named := ["internal/bytealg.MaxLen"], plainKeys := false, apart := false }
def DeltaNeedlessSaid : Prop := deltaNeedlessRow.holds Tryz.pinned (OpenSpec.ofChange deltaNeedlessSpec)

/-- ITS FALSE NEIGHBOUR: 'it returns false'. Refute it at one input. -/
def deltaNeedlessWrong : ChangeSpec := { name := "deltaNeedless", fn := fun _ => fun
  | [d] => { results := [.lit (.bool false)], args := [d] }
  | _ => none }
def DeltaNeedlessWrongFalsely : Prop := deltaNeedlessRow.holds Tryz.pinned (OpenSpec.ofChange deltaNeedlessWrong)

/-- 'handcartlaw11.DeltaParts': WHATEVER THE INPUT: true; the input reads as it did. -/
def deltaPartsSpec : ChangeSpec := { name := "deltaParts", fn := fun _ => fun
  | [d1, d2, d3] => { results := [.lit (.bool true)], args := [d1, d2, d3] }
  | _ => none }
def deltaPartsRow : OpenClaim := { program := "yteocfhbfdhokbaagreat", sum := "94ee237ce5a25933574b15af0ed0cb391f1dcabd94e1e6c3c84c4ed705dce1e3", func := "handcart/handcartlaw11.DeltaParts", spec := "deltaParts", inPlace := ["internal/bytealg.IndexByte", "internal/bytealg.Index"], unfollowed := true, recurses := true, named := ["internal/bytealg.MaxLen"], plainKeys := false, apart := false }
def DeltaPartsSaid : Prop := deltaPartsRow.holds Tryz.pinned (OpenSpec.ofChange deltaPartsSpec)

/-- ITS FALSE NEIGHBOUR: 'it returns false'. Refute it at one input. -/
def deltaPartsWrong : ChangeSpec := { name := "deltaParts", fn := fun _ => fun
  | [d1, d2, d3] => { results := [.lit (.bool false)], args := [d1, d2, d3] }
  | _ => none }
def DeltaPartsWrongFalsely : Prop := deltaPartsRow.holds Tryz.pinned (OpenSpec.ofChange deltaPartsWrong)

/-- 'handcartlaw11.DeltaStands': WHATEVER THE INPUT: true; the input reads as it did. -/
def deltaStandsSpec : ChangeSpec := { name := "deltaStands", fn := fun _ => fun
  | [d] => { results := [.lit (.bool true)], args := [d] }
  | _ => none }
def deltaStandsRow : OpenClaim := { program := "yteocfhbfdhokbaagreat", sum := "94ee237ce5a25933574b15af0ed0cb391f1dcabd94e1e6c3c84c4ed705dce1e3", func := "handcart/handcartlaw11.DeltaStands", spec := "deltaStands", inPlace := ["internal/bytealg.IndexByte", "internal/bytealg.Index"], unfollowed := true, recurses := true, named := ["internal/bytealg.MaxLen"], plainKeys := false, apart := false }
def DeltaStandsSaid : Prop := deltaStandsRow.holds Tryz.pinned (OpenSpec.ofChange deltaStandsSpec)

/-- ITS FALSE NEIGHBOUR: 'it returns false'. Refute it at one input. -/
def deltaStandsWrong : ChangeSpec := { name := "deltaStands", fn := fun _ => fun
  | [d] => { results := [.lit (.bool false)], args := [d] }
  | _ => none }
def DeltaStandsWrongFalsely : Prop := deltaStandsRow.holds Tryz.pinned (OpenSpec.ofChange deltaStandsWrong)

/- THE SECOND FORM. 'bulk': how many values and letters a reading holds, each counted each time it is reached (what is shared counts as often as it is met; a slice's spare places count too). A statement '..UptoSaid' is the law's where the arguments, and the package variables that the reading takes, are together of bulk at most 1048576: NARROWER than '..Said'. Prove '..Said' where nothing that the law and all that it calls make is longer than what came in: it says more and counts as full. Else prove '..UptoSaid'. A law counts once. -/
mutual
def uptoBulk {H : Type} : DataW H → Nat
  | .lit (.string bytes) => bytes.length + 1
  | .lit _ => 1
  | .nil => 1
  | .ptr d => uptoBulk d + 1
  | .slice elems spare => uptoBulkAll elems + uptoBulkAll spare + 1
  | .agg parts => uptoBulkAll parts + 1
  | .iface _ d => uptoBulk d + 1
  | .map entries => uptoBulkEntries entries + 1
  | .held _ => 1
def uptoBulkAll {H : Type} : List (DataW H) → Nat
  | [] => 0
  | d :: r => uptoBulk d + uptoBulkAll r
def uptoBulkEntries {H : Type} : List (Lit × DataW H) → Nat
  | [] => 0
  | x :: r => uptoBulkEntry x + uptoBulkEntries r
def uptoBulkEntry {H : Type} : Lit × DataW H → Nat
  | (.string bytes, d) => bytes.length + uptoBulk d + 1
  | (_, d) => uptoBulk d + 1
 end
def uptoSmall : (H : Type) → List (DataW H) → Bool := fun _ ds => decide (uptoBulkAll ds ≤ 1048576)
def OpenSpec.upto (s : _root_.Go.ChangeSpec) : _root_.Go.OpenSpec := { _root_.Go.OpenSpec.ofChange s with cond := some uptoSmall }

/-- 'handcartlaw11.DeltaNeedless', WHERE WHAT IT READS IS OF BULK AT MOST 1048576: true; the input reads as it did. -/
def deltaNeedlessUptoRow : OpenClaim := { program := "yteocfhbfdhokbaagreat", sum := "94ee237ce5a25933574b15af0ed0cb391f1dcabd94e1e6c3c84c4ed705dce1e3", func := "handcart/handcartlaw11.DeltaNeedless", spec := "deltaNeedless", inPlace := ["internal/bytealg.IndexByte", "internal/bytealg.Index"], unfollowed := true, recurses := true, named := ["internal/bytealg.MaxLen"], plainKeys := false, apart := false, narrowed := true }
def DeltaNeedlessUptoSaid : Prop := deltaNeedlessUptoRow.holds Tryz.pinned (OpenSpec.upto deltaNeedlessSpec)

/-- 'handcartlaw11.DeltaParts', WHERE WHAT IT READS IS OF BULK AT MOST 1048576: true; the input reads as it did. -/
def deltaPartsUptoRow : OpenClaim := { program := "yteocfhbfdhokbaagreat", sum := "94ee237ce5a25933574b15af0ed0cb391f1dcabd94e1e6c3c84c4ed705dce1e3", func := "handcart/handcartlaw11.DeltaParts", spec := "deltaParts", inPlace := ["internal/bytealg.IndexByte", "internal/bytealg.Index"], unfollowed := true, recurses := true, named := ["internal/bytealg.MaxLen"], plainKeys := false, apart := false, narrowed := true }
def DeltaPartsUptoSaid : Prop := deltaPartsUptoRow.holds Tryz.pinned (OpenSpec.upto deltaPartsSpec)

/-- 'handcartlaw11.DeltaStands', WHERE WHAT IT READS IS OF BULK AT MOST 1048576: true; the input reads as it did. -/
def deltaStandsUptoRow : OpenClaim := { program := "yteocfhbfdhokbaagreat", sum := "94ee237ce5a25933574b15af0ed0cb391f1dcabd94e1e6c3c84c4ed705dce1e3", func := "handcart/handcartlaw11.DeltaStands", spec := "deltaStands", inPlace := ["internal/bytealg.IndexByte", "internal/bytealg.Index"], unfollowed := true, recurses := true, named := ["internal/bytealg.MaxLen"], plainKeys := false, apart := false, narrowed := true }
def DeltaStandsUptoSaid : Prop := deltaStandsUptoRow.holds Tryz.pinned (OpenSpec.upto deltaStandsSpec)

end Rows
end Go.Proofs.YteocfhbfdhokbaaGreat
