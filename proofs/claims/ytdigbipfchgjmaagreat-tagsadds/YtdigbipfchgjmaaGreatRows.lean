/-
  No cell of these rows narrows 'for every input' (looked for: loops, veiled, ifaces, maps, wideKeys, modest, calm, conditions, laid).
  DERIVED. THE GIVEN ROWS OF THIS SEAT. 3 by the template 'for every input the law returns true; each argument reads behind the call as it read before'; 0 by the template 'total and deterministic' (their statements: YtdigbipfchgjmaaGreatTotals.lean).
  GIVEN WITH THE SEED: the statements are not yours to turn. If you find one false, say at which input.
  Laid BY PROGRAM, IN A SANDBOX (cutbox-rows.mjs): the forced cells as the released guide's own fill.sh prints them over the translation e5e1446de69c1710… (all of the seat's roots in one cut). By AI agents, Wed Nov 11 2026. No macro, syntax, notation, axiom, sorry.
-/
import Derived.Test.YtdigbipfchgjmaaGreatChecked
import GoSem.Claim
import GoSem.ClaimJoined
import GoSem.ClaimMapViews
import Derived.JoinedTies
import Derived.KernelRfl
namespace Go.Proofs.YtdigbipfchgjmaaGreat
/- THE CELL 'sum', in the pinned program and in every row, IS THE sha256 OF THE DUMP (.gsa) THAT YtdigbipfchgjmaaGreatProg.lean LOADS. Nothing in Lean hashes anything: it is a label: what it is worth is what the hold of that sum in a sandbox is worth. -/
noncomputable def Tryz.pinned : Pinned := { name := "ytdigbipfchgjmaagreat", sum := "e5e1446de69c17108df92abf8b6c553ee65dd66bd683afa69b22f6d527cc9cbe", checked := Tryz.checked }
namespace Rows
def none {H : Type} : Left H := { results := [], args := [] }

/-- 'handcartlaw14.TagsSeen': WHATEVER THE INPUT: true; the input reads as it did. -/
def tagsSeenSpec : ChangeSpec := { name := "tagsSeen", fn := fun _ => fun
  | [d1, d2] => { results := [.lit (.bool true)], args := [d1, d2] }
  | _ => none }
def tagsSeenRow : OpenClaim := { program := "ytdigbipfchgjmaagreat", sum := "e5e1446de69c17108df92abf8b6c553ee65dd66bd683afa69b22f6d527cc9cbe", func := "handcart/handcartlaw14.TagsSeen", spec := "tagsSeen", inPlace := ["internal/bytealg.IndexByte", "internal/bytealg.Index"], unfollowed := true, recurses := true, named := ["internal/bytealg.MaxLen"], plainKeys := false, apart := false }
def TagsSeenSaid : Prop := tagsSeenRow.holds Tryz.pinned (OpenSpec.ofChange tagsSeenSpec)

/-- ITS FALSE NEIGHBOUR: 'it returns false'. Refute it at one input. -/
def tagsSeenWrong : ChangeSpec := { name := "tagsSeen", fn := fun _ => fun
  | [d1, d2] => { results := [.lit (.bool false)], args := [d1, d2] }
  | _ => none }
def TagsSeenWrongFalsely : Prop := tagsSeenRow.holds Tryz.pinned (OpenSpec.ofChange tagsSeenWrong)

/-- 'handcartlaw14.TagsAdds': WHATEVER THE INPUT: true; the input reads as it did. -/
def tagsAddsSpec : ChangeSpec := { name := "tagsAdds", fn := fun _ => fun
  | [d1, d2, d3] => { results := [.lit (.bool true)], args := [d1, d2, d3] }
  | _ => none }
def tagsAddsRow : OpenClaim := { program := "ytdigbipfchgjmaagreat", sum := "e5e1446de69c17108df92abf8b6c553ee65dd66bd683afa69b22f6d527cc9cbe", func := "handcart/handcartlaw14.TagsAdds", spec := "tagsAdds", inPlace := ["internal/bytealg.IndexByte", "internal/bytealg.Index"], unfollowed := true, recurses := true, named := ["internal/bytealg.MaxLen"], plainKeys := false, apart := false }
def TagsAddsSaid : Prop := tagsAddsRow.holds Tryz.pinned (OpenSpec.ofChange tagsAddsSpec)

/-- ITS FALSE NEIGHBOUR: 'it returns false'. Refute it at one input. -/
def tagsAddsWrong : ChangeSpec := { name := "tagsAdds", fn := fun _ => fun
  | [d1, d2, d3] => { results := [.lit (.bool false)], args := [d1, d2, d3] }
  | _ => none }
def TagsAddsWrongFalsely : Prop := tagsAddsRow.holds Tryz.pinned (OpenSpec.ofChange tagsAddsWrong)

/-- 'handcartlaw14.TagsWin': WHATEVER THE INPUT: true; the input reads as it did. -/
def tagsWinSpec : ChangeSpec := { name := "tagsWin", fn := fun _ => fun
  | [d1, d2, d3] => { results := [.lit (.bool true)], args := [d1, d2, d3] }
  | _ => none }
def tagsWinRow : OpenClaim := { program := "ytdigbipfchgjmaagreat", sum := "e5e1446de69c17108df92abf8b6c553ee65dd66bd683afa69b22f6d527cc9cbe", func := "handcart/handcartlaw14.TagsWin", spec := "tagsWin", inPlace := ["internal/bytealg.IndexByte", "internal/bytealg.Index"], unfollowed := true, recurses := true, named := ["internal/bytealg.MaxLen"], plainKeys := false, apart := false }
def TagsWinSaid : Prop := tagsWinRow.holds Tryz.pinned (OpenSpec.ofChange tagsWinSpec)

/-- ITS FALSE NEIGHBOUR: 'it returns false'. Refute it at one input. -/
def tagsWinWrong : ChangeSpec := { name := "tagsWin", fn := fun _ => fun
  | [d1, d2, d3] => { results := [.lit (.bool false)], args := [d1, d2, d3] }
  | _ => none }
def TagsWinWrongFalsely : Prop := tagsWinRow.holds Tryz.pinned (OpenSpec.ofChange tagsWinWrong)

/- THE SECOND FORM. 'bulk': how many values and letters a reading holds, each counted each time it is reached (what is shared counts as often as it is met; a slice's spare places count too). A statement '..UptoSaid' is the law's where the arguments, and the package variables that the reading takes, are together of bulk at most 1048576: NARROWER than '..Said'. Prove '..Said' where nothing that the law and all that it calls make is longer than what came in: it says more and counts as full. Else prove '..UptoSaid'. A law counts once. -/
mutual
def uptoBulk {H : Type} : DataW H → Nat
  | .lit (.string bytes) => bytes.length + 1
  | .lit _ => 1
  | .nil => 1
  | .ptr d => uptoBulk d + 1
  | .slice elems spare => uptoBulkAll elems + uptoBulkAll spare + 1
  | .agg parts => uptoBulkAll parts + 1
  | .iface _ d => uptoBulk d + 1
  | .map entries => uptoBulkEntries entries + 1
  | .held _ => 1
def uptoBulkAll {H : Type} : List (DataW H) → Nat
  | [] => 0
  | d :: r => uptoBulk d + uptoBulkAll r
def uptoBulkEntries {H : Type} : List (Lit × DataW H) → Nat
  | [] => 0
  | x :: r => uptoBulkEntry x + uptoBulkEntries r
def uptoBulkEntry {H : Type} : Lit × DataW H → Nat
  | (.string bytes, d) => bytes.length + uptoBulk d + 1
  | (_, d) => uptoBulk d + 1
 end
def uptoSmall : (H : Type) → List (DataW H) → Bool := fun _ ds => decide (uptoBulkAll ds ≤ 1048576)
def OpenSpec.upto (s : _root_.Go.ChangeSpec) : _root_.Go.OpenSpec := { _root_.Go.OpenSpec.ofChange s with cond := some uptoSmall }

/-- 'handcartlaw14.TagsSeen', WHERE WHAT IT READS IS OF BULK AT MOST 1048576: true; the input reads as it did. -/
def tagsSeenUptoRow : OpenClaim := { program := "ytdigbipfchgjmaagreat", sum := "e5e1446de69c17108df92abf8b6c553ee65dd66bd683afa69b22f6d527cc9cbe", func := "handcart/handcartlaw14.TagsSeen", spec := "tagsSeen", inPlace := ["internal/bytealg.IndexByte", "internal/bytealg.Index"], unfollowed := true, recurses := true, named := ["internal/bytealg.MaxLen"], plainKeys := false, apart := false, narrowed := true }
def TagsSeenUptoSaid : Prop := tagsSeenUptoRow.holds Tryz.pinned (OpenSpec.upto tagsSeenSpec)

/-- 'handcartlaw14.TagsAdds', WHERE WHAT IT READS IS OF BULK AT MOST 1048576: true; the input reads as it did. -/
def tagsAddsUptoRow : OpenClaim := { program := "ytdigbipfchgjmaagreat", sum := "e5e1446de69c17108df92abf8b6c553ee65dd66bd683afa69b22f6d527cc9cbe", func := "handcart/handcartlaw14.TagsAdds", spec := "tagsAdds", inPlace := ["internal/bytealg.IndexByte", "internal/bytealg.Index"], unfollowed := true, recurses := true, named := ["internal/bytealg.MaxLen"], plainKeys := false, apart := false, narrowed := true }
def TagsAddsUptoSaid : Prop := tagsAddsUptoRow.holds Tryz.pinned (OpenSpec.upto tagsAddsSpec)

/-- 'handcartlaw14.TagsWin', WHERE WHAT IT READS IS OF BULK AT MOST 1048576: true; the input reads as it did. -/
def tagsWinUptoRow : OpenClaim := { program := "ytdigbipfchgjmaagreat", sum := "e5e1446de69c17108df92abf8b6c553ee65dd66bd683afa69b22f6d527cc9cbe", func := "handcart/handcartlaw14.TagsWin", spec := "tagsWin", inPlace := ["internal/bytealg.IndexByte", "internal/bytealg.Index"], unfollowed := true, recurses := true, named := ["internal/bytealg.MaxLen"], plainKeys := false, apart := false, narrowed := true }
def TagsWinUptoSaid : Prop := tagsWinUptoRow.holds Tryz.pinned (OpenSpec.upto tagsWinSpec)

end Rows
end Go.Proofs.YtdigbipfchgjmaaGreat
