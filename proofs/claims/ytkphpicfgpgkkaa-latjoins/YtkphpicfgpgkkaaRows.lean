/-
  No cell of these rows narrows 'for every input' (looked for: loops, veiled, ifaces, maps, wideKeys, modest, calm, conditions, laid).
  DERIVED. THE GIVEN ROWS OF THIS SEAT. 4 by the template 'for every input the law returns true; each argument reads behind the call as it read before'; 0 by the template 'total and deterministic' (their statements: YtkphpicfgpgkkaaTotals.lean).
  GIVEN WITH THE SEED: the statements are not yours to turn. If you find one false, say at which input.
  Laid BY PROGRAM, IN A SANDBOX (cutbox-rows.mjs): the forced cells as the released guide's own fill.sh prints them over the translation 01eb6e57381d9032… (all of the seat's roots in one cut). By AI agents, Wed Nov 11 2026. No macro, syntax, notation, axiom, sorry.
-/
import Derived.Test.YtkphpicfgpgkkaaChecked
import GoSem.Claim
import GoSem.ClaimJoined
import GoSem.ClaimMapViews
import Derived.JoinedTies
import Derived.KernelRfl
namespace Go.Proofs.Ytkphpicfgpgkkaa
/- THE CELL 'sum', in the pinned program and in every row, IS THE sha256 OF THE DUMP (.gsa) THAT YtkphpicfgpgkkaaProg.lean LOADS. Nothing in Lean hashes anything: it is a label: what it is worth is what the hold of that sum in a sandbox is worth. -/
noncomputable def Try.pinned : Pinned := { name := "ytkphpicfgpgkkaa", sum := "01eb6e57381d90322313e6b54e584ac07180e50aabb219f0ebbd476700a7aa4b", checked := Try.checked }
namespace Rows
def none {H : Type} : Left H := { results := [], args := [] }

/-- 'handcartlaw10.LatNorms': WHATEVER THE INPUT: true; the input reads as it did. -/
def latNormsSpec : ChangeSpec := { name := "latNorms", fn := fun _ => fun
  | [d1, d2] => { results := [.lit (.bool true)], args := [d1, d2] }
  | _ => none }
def latNormsRow : OpenClaim := { program := "ytkphpicfgpgkkaa", sum := "01eb6e57381d90322313e6b54e584ac07180e50aabb219f0ebbd476700a7aa4b", func := "handcart/handcartlaw10.LatNorms", spec := "latNorms", inPlace := ["internal/bytealg.IndexByte", "internal/bytealg.Index"], unfollowed := true, recurses := true, named := ["internal/bytealg.MaxLen"], plainKeys := false, apart := false }
def LatNormsSaid : Prop := latNormsRow.holds Try.pinned (OpenSpec.ofChange latNormsSpec)

/-- ITS FALSE NEIGHBOUR: 'it returns false'. Refute it at one input. -/
def latNormsWrong : ChangeSpec := { name := "latNorms", fn := fun _ => fun
  | [d1, d2] => { results := [.lit (.bool false)], args := [d1, d2] }
  | _ => none }
def LatNormsWrongFalsely : Prop := latNormsRow.holds Try.pinned (OpenSpec.ofChange latNormsWrong)

/-- 'handcartlaw10.LatJoins': WHATEVER THE INPUT: true; the input reads as it did. -/
def latJoinsSpec : ChangeSpec := { name := "latJoins", fn := fun _ => fun
  | [d1, d2] => { results := [.lit (.bool true)], args := [d1, d2] }
  | _ => none }
def latJoinsRow : OpenClaim := { program := "ytkphpicfgpgkkaa", sum := "01eb6e57381d90322313e6b54e584ac07180e50aabb219f0ebbd476700a7aa4b", func := "handcart/handcartlaw10.LatJoins", spec := "latJoins", inPlace := ["internal/bytealg.IndexByte", "internal/bytealg.Index"], unfollowed := true, recurses := true, named := ["internal/bytealg.MaxLen"], plainKeys := false, apart := false }
def LatJoinsSaid : Prop := latJoinsRow.holds Try.pinned (OpenSpec.ofChange latJoinsSpec)

/-- ITS FALSE NEIGHBOUR: 'it returns false'. Refute it at one input. -/
def latJoinsWrong : ChangeSpec := { name := "latJoins", fn := fun _ => fun
  | [d1, d2] => { results := [.lit (.bool false)], args := [d1, d2] }
  | _ => none }
def LatJoinsWrongFalsely : Prop := latJoinsRow.holds Try.pinned (OpenSpec.ofChange latJoinsWrong)

/-- 'handcartlaw10.LatAll': WHATEVER THE INPUT: true; the input reads as it did. -/
def latAllSpec : ChangeSpec := { name := "latAll", fn := fun _ => fun
  | [d1, d2] => { results := [.lit (.bool true)], args := [d1, d2] }
  | _ => none }
def latAllRow : OpenClaim := { program := "ytkphpicfgpgkkaa", sum := "01eb6e57381d90322313e6b54e584ac07180e50aabb219f0ebbd476700a7aa4b", func := "handcart/handcartlaw10.LatAll", spec := "latAll", inPlace := ["internal/bytealg.IndexByte", "internal/bytealg.Index"], unfollowed := true, recurses := true, named := ["internal/bytealg.MaxLen"], plainKeys := false, apart := false }
def LatAllSaid : Prop := latAllRow.holds Try.pinned (OpenSpec.ofChange latAllSpec)

/-- ITS FALSE NEIGHBOUR: 'it returns false'. Refute it at one input. -/
def latAllWrong : ChangeSpec := { name := "latAll", fn := fun _ => fun
  | [d1, d2] => { results := [.lit (.bool false)], args := [d1, d2] }
  | _ => none }
def LatAllWrongFalsely : Prop := latAllRow.holds Try.pinned (OpenSpec.ofChange latAllWrong)

/-- 'handcartlaw10.LatLeast': WHATEVER THE INPUT: true; the input reads as it did. -/
def latLeastSpec : ChangeSpec := { name := "latLeast", fn := fun _ => fun
  | [d1, d2, d3] => { results := [.lit (.bool true)], args := [d1, d2, d3] }
  | _ => none }
def latLeastRow : OpenClaim := { program := "ytkphpicfgpgkkaa", sum := "01eb6e57381d90322313e6b54e584ac07180e50aabb219f0ebbd476700a7aa4b", func := "handcart/handcartlaw10.LatLeast", spec := "latLeast", inPlace := ["internal/bytealg.IndexByte", "internal/bytealg.Index"], unfollowed := true, recurses := true, named := ["internal/bytealg.MaxLen"], plainKeys := false, apart := false }
def LatLeastSaid : Prop := latLeastRow.holds Try.pinned (OpenSpec.ofChange latLeastSpec)

/-- ITS FALSE NEIGHBOUR: 'it returns false'. Refute it at one input. -/
def latLeastWrong : ChangeSpec := { name := "latLeast", fn := fun _ => fun
  | [d1, d2, d3] => { results := [.lit (.bool false)], args := [d1, d2, d3] }
  | _ => none }
def LatLeastWrongFalsely : Prop := latLeastRow.holds Try.pinned (OpenSpec.ofChange latLeastWrong)

/- THE SECOND FORM. 'bulk': how many values and letters a reading holds, each counted each time it is reached (what is shared counts as often as it is met; a slice's spare places count too). A statement '..UptoSaid' is the law's where the arguments, and the package variables that the reading takes, are together of bulk at most 1048576: NARROWER than '..Said'. Prove '..Said' where nothing that the law and all that it calls make is longer than what came in: it says more and counts as full. Else prove '..UptoSaid'. A law counts once. -/
mutual
def uptoBulk {H : Type} : DataW H → Nat
  | .lit (.string bytes) => bytes.length + 1
  | .lit _ => 1
  | .nil => 1
  | .ptr d => uptoBulk d + 1
  | .slice elems spare => uptoBulkAll elems + uptoBulkAll spare + 1
  | .agg parts => uptoBulkAll parts + 1
  | .iface _ d => uptoBulk d + 1
  | .map entries => uptoBulkEntries entries + 1
  | .held _ => 1
def uptoBulkAll {H : Type} : List (DataW H) → Nat
  | [] => 0
  | d :: r => uptoBulk d + uptoBulkAll r
def uptoBulkEntries {H : Type} : List (Lit × DataW H) → Nat
  | [] => 0
  | x :: r => uptoBulkEntry x + uptoBulkEntries r
def uptoBulkEntry {H : Type} : Lit × DataW H → Nat
  | (.string bytes, d) => bytes.length + uptoBulk d + 1
  | (_, d) => uptoBulk d + 1
 end
def uptoSmall : (H : Type) → List (DataW H) → Bool := fun _ ds => decide (uptoBulkAll ds ≤ 1048576)
def OpenSpec.upto (s : _root_.Go.ChangeSpec) : _root_.Go.OpenSpec := { _root_.Go.OpenSpec.ofChange s with cond := some uptoSmall }

/-- 'handcartlaw10.LatNorms', WHERE WHAT IT READS IS OF BULK AT MOST 1048576: true; the input reads as it did. -/
def latNormsUptoRow : OpenClaim := { program := "ytkphpicfgpgkkaa", sum := "01eb6e57381d90322313e6b54e584ac07180e50aabb219f0ebbd476700a7aa4b", func := "handcart/handcartlaw10.LatNorms", spec := "latNorms", inPlace := ["internal/bytealg.IndexByte", "internal/bytealg.Index"], unfollowed := true, recurses := true, named := ["internal/bytealg.MaxLen"], plainKeys := false, apart := false, narrowed := true }
def LatNormsUptoSaid : Prop := latNormsUptoRow.holds Try.pinned (OpenSpec.upto latNormsSpec)

/-- 'handcartlaw10.LatJoins', WHERE WHAT IT READS IS OF BULK AT MOST 1048576: true; the input reads as it did. -/
def latJoinsUptoRow : OpenClaim := { program := "ytkphpicfgpgkkaa", sum := "01eb6e57381d90322313e6b54e584ac07180e50aabb219f0ebbd476700a7aa4b", func := "handcart/handcartlaw10.LatJoins", spec := "latJoins", inPlace := ["internal/bytealg.IndexByte", "internal/bytealg.Index"], unfollowed := true, recurses := true, named := ["internal/bytealg.MaxLen"], plainKeys := false, apart := false, narrowed := true }
def LatJoinsUptoSaid : Prop := latJoinsUptoRow.holds Try.pinned (OpenSpec.upto latJoinsSpec)

/-- 'handcartlaw10.LatAll', WHERE WHAT IT READS IS OF BULK AT MOST 1048576: true; the input reads as it did. -/
def latAllUptoRow : OpenClaim := { program := "ytkphpicfgpgkkaa", sum := "01eb6e57381d90322313e6b54e584ac07180e50aabb219f0ebbd476700a7aa4b", func := "handcart/handcartlaw10.LatAll", spec := "latAll", inPlace := ["internal/bytealg.IndexByte", "internal/bytealg.Index"], unfollowed := true, recurses := true, named := ["internal/bytealg.MaxLen"], plainKeys := false, apart := false, narrowed := true }
def LatAllUptoSaid : Prop := latAllUptoRow.holds Try.pinned (OpenSpec.upto latAllSpec)

/-- 'handcartlaw10.LatLeast', WHERE WHAT IT READS IS OF BULK AT MOST 1048576: true; the input reads as it did. -/
def latLeastUptoRow : OpenClaim := { program := "ytkphpicfgpgkkaa", sum := "01eb6e57381d90322313e6b54e584ac07180e50aabb219f0ebbd476700a7aa4b", func := "handcart/handcartlaw10.LatLeast", spec := "latLeast", inPlace := ["internal/bytealg.IndexByte", "internal/bytealg.Index"], unfollowed := true, recurses := true, named := ["internal/bytealg.MaxLen"], plainKeys := false, apart := false, narrowed := true }
def LatLeastUptoSaid : Prop := latLeastUptoRow.holds Try.pinned (OpenSpec.upto latLeastSpec)

end Rows
end Go.Proofs.Ytkphpicfgpgkkaa
