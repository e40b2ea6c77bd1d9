/-
  No cell of these rows narrows 'for every input' (looked for: loops, veiled, ifaces, maps, wideKeys, modest, calm, conditions, laid).
  DERIVED. THE GIVEN ROWS OF THIS SEAT. 3 by the template 'for every input the law returns true; each argument reads behind the call as it read before'; 0 by the template 'total and deterministic' (their statements: YtijfbhdbfplghaaGreatTotals.lean).
  GIVEN WITH THE SEED: the statements are not yours to turn. If you find one false, say at which input.
  Laid BY PROGRAM, IN A SANDBOX (cutbox-rows.mjs): the forced cells as the released guide's own fill.sh prints them over the translation 91f2d72c545a47fa… (all of the seat's roots in one cut). By AI agents, Wed Nov 11 2026. No macro, syntax, notation, axiom, sorry.
-/
import Derived.Test.YtijfbhdbfplghaaGreatChecked
import GoSem.Claim
import GoSem.ClaimJoined
import GoSem.ClaimMapViews
import Derived.JoinedTies
import Derived.KernelRfl
namespace Go.Proofs.YtijfbhdbfplghaaGreat
/- THE CELL 'sum', in the pinned program and in every row, IS THE sha256 OF THE DUMP (.gsa) THAT YtijfbhdbfplghaaGreatProg.lean LOADS. Nothing in Lean hashes anything: it is a label: what it is worth is what the hold of that sum in a sandbox is worth. -/
noncomputable def Tryz.pinned : Pinned := { name := "ytijfbhdbfplghaagreat", sum := "91f2d72c545a47fac2ef65e70af5832806bf4c65db448f972b628c7595f5a220", checked := Tryz.checked }
namespace Rows
def none {H : Type} : Left H := { results := [], args := [] }

/-- 'handcartlaw17.CartReads': WHATEVER THE INPUT: true; the input reads as it did. -/
def cartReadsSpec : ChangeSpec := { name := "cartReads", fn := fun _ => fun
  | [d1, d2, d3] => { results := [.lit (.bool true)], args := [d1, d2, d3] }
  | _ => none }
def cartReadsRow : OpenClaim := { program := "ytijfbhdbfplghaagreat", sum := "91f2d72c545a47fac2ef65e70af5832806bf4c65db448f972b628c7595f5a220", func := "handcart/handcartlaw17.CartReads", spec := "cartReads", inPlace := ["internal/bytealg.IndexByte", "internal/bytealg.Index"], unfollowed := true, recurses := true, named := ["internal/bytealg.MaxLen"], plainKeys := false, apart := false }
def CartReadsSaid : Prop := cartReadsRow.holds Tryz.pinned (OpenSpec.ofChange cartReadsSpec)

/-- ITS FALSE NEIGHBOUR: 'it returns false'. Refute it at one input. -/
def cartReadsWrong : ChangeSpec := { name := "cartReads", fn := fun _ => fun
  | [d1, d2, d3] => { results := [.lit (.bool false)], args := [d1, d2, d3] }
  | _ => none }
def CartReadsWrongFalsely : Prop := cartReadsRow.holds Tryz.pinned (OpenSpec.ofChange cartReadsWrong)

/-- 'handcartlaw17.CartViews': WHATEVER THE INPUT: true; the input reads as it did. -/
def cartViewsSpec : ChangeSpec := { name := "cartViews", fn := fun _ => fun
  | [d1, d2] => { results := [.lit (.bool true)], args := [d1, d2] }
  | _ => none }
def cartViewsRow : OpenClaim := { program := "ytijfbhdbfplghaagreat", sum := "91f2d72c545a47fac2ef65e70af5832806bf4c65db448f972b628c7595f5a220", func := "handcart/handcartlaw17.CartViews", spec := "cartViews", inPlace := ["internal/bytealg.IndexByte", "internal/bytealg.Index"], unfollowed := true, recurses := true, named := ["internal/bytealg.MaxLen"], plainKeys := false, apart := false }
def CartViewsSaid : Prop := cartViewsRow.holds Tryz.pinned (OpenSpec.ofChange cartViewsSpec)

/-- ITS FALSE NEIGHBOUR: 'it returns false'. Refute it at one input. -/
def cartViewsWrong : ChangeSpec := { name := "cartViews", fn := fun _ => fun
  | [d1, d2] => { results := [.lit (.bool false)], args := [d1, d2] }
  | _ => none }
def CartViewsWrongFalsely : Prop := cartViewsRow.holds Tryz.pinned (OpenSpec.ofChange cartViewsWrong)

/-- 'handcartlaw17.CartAlike': WHATEVER THE INPUT: true; the input reads as it did. -/
def cartAlikeSpec : ChangeSpec := { name := "cartAlike", fn := fun _ => fun
  | [d1, d2, d3] => { results := [.lit (.bool true)], args := [d1, d2, d3] }
  | _ => none }
def cartAlikeRow : OpenClaim := { program := "ytijfbhdbfplghaagreat", sum := "91f2d72c545a47fac2ef65e70af5832806bf4c65db448f972b628c7595f5a220", func := "handcart/handcartlaw17.CartAlike", spec := "cartAlike", inPlace := ["internal/bytealg.IndexByte", "internal/bytealg.Index"], unfollowed := true, recurses := true, named := ["internal/bytealg.MaxLen"], plainKeys := false, apart := false }
def CartAlikeSaid : Prop := cartAlikeRow.holds Tryz.pinned (OpenSpec.ofChange cartAlikeSpec)

/-- ITS FALSE NEIGHBOUR: 'it returns false'. Refute it at one input. -/
def cartAlikeWrong : ChangeSpec := { name := "cartAlike", fn := fun _ => fun
  | [d1, d2, d3] => { results := [.lit (.bool false)], args := [d1, d2, d3] }
  | _ => none }
def CartAlikeWrongFalsely : Prop := cartAlikeRow.holds Tryz.pinned (OpenSpec.ofChange cartAlikeWrong)

/- THE SECOND FORM. 'bulk': how many values and letters a reading holds, each counted each time it is reached (what is shared counts as often as it is met; a slice's spare places count too). A statement '..UptoSaid' is the law's where the arguments, and the package variables that the reading takes, are together of bulk at most 1048576: NARROWER than '..Said'. Prove '..Said' where nothing that the law and all that it calls make is longer than what came in: it says more and counts as full. Else prove '..UptoSaid'. A law counts once. -/
mutual
def uptoBulk {H : Type} : DataW H → Nat
  | .lit (.string bytes) => bytes.length + 1
  | .lit _ => 1
  | .nil => 1
  | .ptr d => uptoBulk d + 1
  | .slice elems spare => uptoBulkAll elems + uptoBulkAll spare + 1
  | .agg parts => uptoBulkAll parts + 1
  | .iface _ d => uptoBulk d + 1
  | .map entries => uptoBulkEntries entries + 1
  | .held _ => 1
def uptoBulkAll {H : Type} : List (DataW H) → Nat
  | [] => 0
  | d :: r => uptoBulk d + uptoBulkAll r
def uptoBulkEntries {H : Type} : List (Lit × DataW H) → Nat
  | [] => 0
  | x :: r => uptoBulkEntry x + uptoBulkEntries r
def uptoBulkEntry {H : Type} : Lit × DataW H → Nat
  | (.string bytes, d) => bytes.length + uptoBulk d + 1
  | (_, d) => uptoBulk d + 1
 end
def uptoSmall : (H : Type) → List (DataW H) → Bool := fun _ ds => decide (uptoBulkAll ds ≤ 1048576)
def OpenSpec.upto (s : _root_.Go.ChangeSpec) : _root_.Go.OpenSpec := { _root_.Go.OpenSpec.ofChange s with cond := some uptoSmall }

/-- 'handcartlaw17.CartReads', WHERE WHAT IT READS IS OF BULK AT MOST 1048576: true; the input reads as it did. -/
def cartReadsUptoRow : OpenClaim := { program := "ytijfbhdbfplghaagreat", sum := "91f2d72c545a47fac2ef65e70af5832806bf4c65db448f972b628c7595f5a220", func := "handcart/handcartlaw17.CartReads", spec := "cartReads", inPlace := ["internal/bytealg.IndexByte", "internal/bytealg.Index"], unfollowed := true, recurses := true, named := ["internal/bytealg.MaxLen"], plainKeys := false, apart := false, narrowed := true }
def CartReadsUptoSaid : Prop := cartReadsUptoRow.holds Tryz.pinned (OpenSpec.upto cartReadsSpec)

/-- 'handcartlaw17.CartViews', WHERE WHAT IT READS IS OF BULK AT MOST 1048576: true; the input reads as it did. -/
def cartViewsUptoRow : OpenClaim := { program := "ytijfbhdbfplghaagreat", sum := "91f2d72c545a47fac2ef65e70af5832806bf4c65db448f972b628c7595f5a220", func := "handcart/handcartlaw17.CartViews", spec := "cartViews", inPlace := ["internal/bytealg.IndexByte", "internal/bytealg.Index"], unfollowed := true, recurses := true, named := ["internal/bytealg.MaxLen"], plainKeys := false, apart := false, narrowed := true }
def CartViewsUptoSaid : Prop := cartViewsUptoRow.holds Tryz.pinned (OpenSpec.upto cartViewsSpec)

/-- 'handcartlaw17.CartAlike', WHERE WHAT IT READS IS OF BULK AT MOST 1048576: true; the input reads as it did. -/
def cartAlikeUptoRow : OpenClaim := { program := "ytijfbhdbfplghaagreat", sum := "91f2d72c545a47fac2ef65e70af5832806bf4c65db448f972b628c7595f5a220", func := "handcart/handcartlaw17.CartAlike", spec := "cartAlike", inPlace := ["internal/bytealg.IndexByte", "internal/bytealg.Index"], unfollowed := true, recurses := true, named := ["internal/bytealg.MaxLen"], plainKeys := false, apart := false, narrowed := true }
def CartAlikeUptoSaid : Prop := cartAlikeUptoRow.holds Tryz.pinned (OpenSpec.upto cartAlikeSpec)

end Rows
end Go.Proofs.YtijfbhdbfplghaaGreat
