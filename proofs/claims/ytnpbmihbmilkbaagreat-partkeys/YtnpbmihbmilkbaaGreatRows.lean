/-
  No cell of these rows narrows 'for every input' (looked for: loops, veiled, ifaces, maps, wideKeys, modest, calm, conditions, laid).
  DERIVED. THE GIVEN ROWS OF THIS SEAT. 3 by the template 'for every input the law returns true; each argument reads behind the call as it read before'; 0 by the template 'total and deterministic' (their statements: YtnpbmihbmilkbaaGreatTotals.lean).
  GIVEN WITH THE SEED: the statements are not yours to turn. If you find one false, say at which input.
  Laid BY PROGRAM, IN A SANDBOX (cutbox-rows.mjs): the forced cells as the released guide's own fill.sh prints them over the translation 41b4423934927f4c… (all of the seat's roots in one cut). By AI agents, Wed Nov 11 2026. No macro, syntax, notation, axiom, sorry.
-/
import Derived.Test.YtnpbmihbmilkbaaGreatChecked
import GoSem.Claim
import GoSem.ClaimJoined
import GoSem.ClaimMapViews
import Derived.JoinedTies
import Derived.KernelRfl
namespace Go.Proofs.YtnpbmihbmilkbaaGreat
/- THE CELL 'sum', in the pinned program and in every row, IS THE sha256 OF THE DUMP (.gsa) THAT YtnpbmihbmilkbaaGreatProg.lean LOADS. Nothing in Lean hashes anything: it is a label: what it is worth is what the hold of that sum in a sandbox is worth. -/
noncomputable def Tryz.pinned : Pinned := { name := "ytnpbmihbmilkbaagreat", sum := "41b4423934927f4c4f93a60a4030212d231faedea54ed5ecf5c0d570b964db30", checked := Tryz.checked }
namespace Rows
def none {H : Type} : Left H := { results := [], args := [] }

/-- 'handcartlaw20.PartKeys': WHATEVER THE INPUT: true; the input reads as it did. -/
def partKeysSpec : ChangeSpec := { name := "partKeys", fn := fun _ => fun
  | [d1, d2, d3] => { results := [.lit (.bool true)], args := [d1, d2, d3] }
  | _ => none }
def partKeysRow : OpenClaim := { program := "ytnpbmihbmilkbaagreat", sum := "41b4423934927f4c4f93a60a4030212d231faedea54ed5ecf5c0d570b964db30", func := "handcart/handcartlaw20.PartKeys", spec := "partKeys", inPlace := ["internal/bytealg.IndexByte", "internal/bytealg.Index"], unfollowed := true, recurses := true, named := ["internal/bytealg.MaxLen"], plainKeys := false, apart := false }
def PartKeysSaid : Prop := partKeysRow.holds Tryz.pinned (OpenSpec.ofChange partKeysSpec)

/-- ITS FALSE NEIGHBOUR: 'it returns false'. Refute it at one input. -/
def partKeysWrong : ChangeSpec := { name := "partKeys", fn := fun _ => fun
  | [d1, d2, d3] => { results := [.lit (.bool false)], args := [d1, d2, d3] }
  | _ => none }
def PartKeysWrongFalsely : Prop := partKeysRow.holds Tryz.pinned (OpenSpec.ofChange partKeysWrong)

/-- 'handcartlaw20.PartSifts': WHATEVER THE INPUT: true; the input reads as it did. -/
def partSiftsSpec : ChangeSpec := { name := "partSifts", fn := fun _ => fun
  | [d1, d2, d3] => { results := [.lit (.bool true)], args := [d1, d2, d3] }
  | _ => none }
def partSiftsRow : OpenClaim := { program := "ytnpbmihbmilkbaagreat", sum := "41b4423934927f4c4f93a60a4030212d231faedea54ed5ecf5c0d570b964db30", func := "handcart/handcartlaw20.PartSifts", spec := "partSifts", inPlace := ["internal/bytealg.IndexByte", "internal/bytealg.Index"], unfollowed := true, recurses := true, named := ["internal/bytealg.MaxLen"], plainKeys := false, apart := false }
def PartSiftsSaid : Prop := partSiftsRow.holds Tryz.pinned (OpenSpec.ofChange partSiftsSpec)

/-- ITS FALSE NEIGHBOUR: 'it returns false'. Refute it at one input. -/
def partSiftsWrong : ChangeSpec := { name := "partSifts", fn := fun _ => fun
  | [d1, d2, d3] => { results := [.lit (.bool false)], args := [d1, d2, d3] }
  | _ => none }
def PartSiftsWrongFalsely : Prop := partSiftsRow.holds Tryz.pinned (OpenSpec.ofChange partSiftsWrong)

/-- 'handcartlaw20.PartWhole': WHATEVER THE INPUT: true; the input reads as it did. -/
def partWholeSpec : ChangeSpec := { name := "partWhole", fn := fun _ => fun
  | [d1, d2, d3] => { results := [.lit (.bool true)], args := [d1, d2, d3] }
  | _ => none }
def partWholeRow : OpenClaim := { program := "ytnpbmihbmilkbaagreat", sum := "41b4423934927f4c4f93a60a4030212d231faedea54ed5ecf5c0d570b964db30", func := "handcart/handcartlaw20.PartWhole", spec := "partWhole", inPlace := ["internal/bytealg.IndexByte", "internal/bytealg.Index"], unfollowed := true, recurses := true, named := ["internal/bytealg.MaxLen"], plainKeys := false, apart := false }
def PartWholeSaid : Prop := partWholeRow.holds Tryz.pinned (OpenSpec.ofChange partWholeSpec)

/-- ITS FALSE NEIGHBOUR: 'it returns false'. Refute it at one input. -/
def partWholeWrong : ChangeSpec := { name := "partWhole", fn := fun _ => fun
  | [d1, d2, d3] => { results := [.lit (.bool false)], args := [d1, d2, d3] }
  | _ => none }
def PartWholeWrongFalsely : Prop := partWholeRow.holds Tryz.pinned (OpenSpec.ofChange partWholeWrong)

/- THE SECOND FORM. 'bulk': how many values and letters a reading holds, each counted each time it is reached (what is shared counts as often as it is met; a slice's spare places count too). A statement '..UptoSaid' is the law's where the arguments, and the package variables that the reading takes, are together of bulk at most 1048576: NARROWER than '..Said'. Prove '..Said' where nothing that the law and all that it calls make is longer than what came in: it says more and counts as full. Else prove '..UptoSaid'. A law counts once. -/
mutual
def uptoBulk {H : Type} : DataW H → Nat
  | .lit (.string bytes) => bytes.length + 1
  | .lit _ => 1
  | .nil => 1
  | .ptr d => uptoBulk d + 1
  | .slice elems spare => uptoBulkAll elems + uptoBulkAll spare + 1
  | .agg parts => uptoBulkAll parts + 1
  | .iface _ d => uptoBulk d + 1
  | .map entries => uptoBulkEntries entries + 1
  | .held _ => 1
def uptoBulkAll {H : Type} : List (DataW H) → Nat
  | [] => 0
  | d :: r => uptoBulk d + uptoBulkAll r
def uptoBulkEntries {H : Type} : List (Lit × DataW H) → Nat
  | [] => 0
  | x :: r => uptoBulkEntry x + uptoBulkEntries r
def uptoBulkEntry {H : Type} : Lit × DataW H → Nat
  | (.string bytes, d) => bytes.length + uptoBulk d + 1
  | (_, d) => uptoBulk d + 1
 end
def uptoSmall : (H : Type) → List (DataW H) → Bool := fun _ ds => decide (uptoBulkAll ds ≤ 1048576)
def OpenSpec.upto (s : _root_.Go.ChangeSpec) : _root_.Go.OpenSpec := { _root_.Go.OpenSpec.ofChange s with cond := some uptoSmall }

/-- 'handcartlaw20.PartKeys', WHERE WHAT IT READS IS OF BULK AT MOST 1048576: true; the input reads as it did. -/
def partKeysUptoRow : OpenClaim := { program := "ytnpbmihbmilkbaagreat", sum := "41b4423934927f4c4f93a60a4030212d231faedea54ed5ecf5c0d570b964db30", func := "handcart/handcartlaw20.PartKeys", spec := "partKeys", inPlace := ["internal/bytealg.IndexByte", "internal/bytealg.Index"], unfollowed := true, recurses := true, named := ["internal/bytealg.MaxLen"], plainKeys := false, apart := false, narrowed := true }
def PartKeysUptoSaid : Prop := partKeysUptoRow.holds Tryz.pinned (OpenSpec.upto partKeysSpec)

/-- 'handcartlaw20.PartSifts', WHERE WHAT IT READS IS OF BULK AT MOST 1048576: true; the input reads as it did. -/
def partSiftsUptoRow : OpenClaim := { program := "ytnpbmihbmilkbaagreat", sum := "41b4423934927f4c4f93a60a4030212d231faedea54ed5ecf5c0d570b964db30", func := "handcart/handcartlaw20.PartSifts", spec := "partSifts", inPlace := ["internal/bytealg.IndexByte", "internal/bytealg.Index"], unfollowed := true, recurses := true, named := ["internal/bytealg.MaxLen"], plainKeys := false, apart := false, narrowed := true }
def PartSiftsUptoSaid : Prop := partSiftsUptoRow.holds Tryz.pinned (OpenSpec.upto partSiftsSpec)

/-- 'handcartlaw20.PartWhole', WHERE WHAT IT READS IS OF BULK AT MOST 1048576: true; the input reads as it did. -/
def partWholeUptoRow : OpenClaim := { program := "ytnpbmihbmilkbaagreat", sum := "41b4423934927f4c4f93a60a4030212d231faedea54ed5ecf5c0d570b964db30", func := "handcart/handcartlaw20.PartWhole", spec := "partWhole", inPlace := ["internal/bytealg.IndexByte", "internal/bytealg.Index"], unfollowed := true, recurses := true, named := ["internal/bytealg.MaxLen"], plainKeys := false, apart := false, narrowed := true }
def PartWholeUptoSaid : Prop := partWholeUptoRow.holds Tryz.pinned (OpenSpec.upto partWholeSpec)

end Rows
end Go.Proofs.YtnpbmihbmilkbaaGreat
