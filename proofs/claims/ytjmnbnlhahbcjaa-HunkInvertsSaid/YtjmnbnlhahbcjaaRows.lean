/-
  No cell of these rows narrows 'for every input' (looked for: loops, veiled, ifaces, maps, wideKeys, modest, calm, conditions, laid).
  DERIVED. THE GIVEN ROWS OF THIS SEAT. 9 by the template 'for every input the law returns true; each argument reads behind the call as it read before'; 0 by the template 'total and deterministic' (their statements: YtjmnbnlhahbcjaaTotals.lean).
  GIVEN WITH THE SEED: the statements are not yours to turn. If you find one false, say at which input.
  Laid BY PROGRAM, IN A SANDBOX (cutbox-rows.mjs): the forced cells as the released guide's own fill.sh prints them over the translation 8da3d80a4ee3f053… (all of the seat's roots in one cut). By AI agents, Wed Nov 11 2026. No macro, syntax, notation, axiom, sorry.
-/
import Derived.Test.YtjmnbnlhahbcjaaChecked
import GoSem.Claim
import GoSem.ClaimJoined
import GoSem.ClaimMapViews
import Derived.JoinedTies
import Derived.KernelRfl
namespace Go.Proofs.Ytjmnbnlhahbcjaa
/- THE CELL 'sum', in the pinned program and in every row, IS THE sha256 OF THE DUMP (.gsa) THAT YtjmnbnlhahbcjaaProg.lean LOADS. Nothing in Lean hashes anything: it is a label: what it is worth is what the hold of that sum in a sandbox is worth. -/
noncomputable def Try.pinned : Pinned := { name := "ytjmnbnlhahbcjaa", sum := "8da3d80a4ee3f053d07a59dccbcdafa651502b2d465d77350c8f6ed2cc90b450", checked := Try.checked }
namespace Rows
def none {H : Type} : Left H := { results := [], args := [] }

/-- 'scrimlaw04.IdentOrders': WHATEVER THE INPUT: true; the input reads as it did. -/
def identOrdersSpec : ChangeSpec := { name := "identOrders", fn := fun _ => fun
  | [d1, d2, d3] => { results := [.lit (.bool true)], args := [d1, d2, d3] }
  | _ => none }
def identOrdersRow : OpenClaim := { program := "ytjmnbnlhahbcjaa", sum := "8da3d80a4ee3f053d07a59dccbcdafa651502b2d465d77350c8f6ed2cc90b450", func := "scrim/scrimlaw04.IdentOrders", spec := "identOrders", unfollowed := true, recurses := true, plainKeys := false, apart := false }
def IdentOrdersSaid : Prop := identOrdersRow.holds Try.pinned (OpenSpec.ofChange identOrdersSpec)

/-- ITS FALSE NEIGHBOUR: 'it returns false'. Refute it at one input. -/
def identOrdersWrong : ChangeSpec := { name := "identOrders", fn := fun _ => fun
  | [d1, d2, d3] => { results := [.lit (.bool false)], args := [d1, d2, d3] }
  | _ => none }
def IdentOrdersWrongFalsely : Prop := identOrdersRow.holds Try.pinned (OpenSpec.ofChange identOrdersWrong)

/-- 'scrimlaw07.DiffLines': WHATEVER THE INPUT: true; the input reads as it did. -/
def diffLinesSpec : ChangeSpec := { name := "diffLines", fn := fun _ => fun
  | [d1, d2, d3] => { results := [.lit (.bool true)], args := [d1, d2, d3] }
  | _ => none }
def diffLinesRow : OpenClaim := { program := "ytjmnbnlhahbcjaa", sum := "8da3d80a4ee3f053d07a59dccbcdafa651502b2d465d77350c8f6ed2cc90b450", func := "scrim/scrimlaw07.DiffLines", spec := "diffLines", unfollowed := true, recurses := true, plainKeys := false, apart := false }
def DiffLinesSaid : Prop := diffLinesRow.holds Try.pinned (OpenSpec.ofChange diffLinesSpec)

/-- ITS FALSE NEIGHBOUR: 'it returns false'. Refute it at one input. -/
def diffLinesWrong : ChangeSpec := { name := "diffLines", fn := fun _ => fun
  | [d1, d2, d3] => { results := [.lit (.bool false)], args := [d1, d2, d3] }
  | _ => none }
def DiffLinesWrongFalsely : Prop := diffLinesRow.holds Try.pinned (OpenSpec.ofChange diffLinesWrong)

/-- 'scrimlaw08.HunkChecks': WHATEVER THE INPUT: true; the input reads as it did. -/
def hunkChecksSpec : ChangeSpec := { name := "hunkChecks", fn := fun _ => fun
  | [d1, d2] => { results := [.lit (.bool true)], args := [d1, d2] }
  | _ => none }
def hunkChecksRow : OpenClaim := { program := "ytjmnbnlhahbcjaa", sum := "8da3d80a4ee3f053d07a59dccbcdafa651502b2d465d77350c8f6ed2cc90b450", func := "scrim/scrimlaw08.HunkChecks", spec := "hunkChecks", inPlace := ["internal/bytealg.IndexByteString", "internal/bytealg.IndexString"], named := ["internal/bytealg.MaxLen"], plainKeys := false, apart := false }
def HunkChecksSaid : Prop := hunkChecksRow.holds Try.pinned (OpenSpec.ofChange hunkChecksSpec)

/-- ITS FALSE NEIGHBOUR: 'it returns false'. Refute it at one input. -/
def hunkChecksWrong : ChangeSpec := { name := "hunkChecks", fn := fun _ => fun
  | [d1, d2] => { results := [.lit (.bool false)], args := [d1, d2] }
  | _ => none }
def HunkChecksWrongFalsely : Prop := hunkChecksRow.holds Try.pinned (OpenSpec.ofChange hunkChecksWrong)

/-- 'scrimlaw08.HunkApplies': WHATEVER THE INPUT: true; the input reads as it did. -/
def hunkAppliesSpec : ChangeSpec := { name := "hunkApplies", fn := fun _ => fun
  | [d1, d2] => { results := [.lit (.bool true)], args := [d1, d2] }
  | _ => none }
def hunkAppliesRow : OpenClaim := { program := "ytjmnbnlhahbcjaa", sum := "8da3d80a4ee3f053d07a59dccbcdafa651502b2d465d77350c8f6ed2cc90b450", func := "scrim/scrimlaw08.HunkApplies", spec := "hunkApplies", inPlace := ["internal/bytealg.IndexByteString", "internal/bytealg.IndexString"], named := ["internal/bytealg.MaxLen"], plainKeys := false, apart := false }
def HunkAppliesSaid : Prop := hunkAppliesRow.holds Try.pinned (OpenSpec.ofChange hunkAppliesSpec)

/-- ITS FALSE NEIGHBOUR: 'it returns false'. Refute it at one input. -/
def hunkAppliesWrong : ChangeSpec := { name := "hunkApplies", fn := fun _ => fun
  | [d1, d2] => { results := [.lit (.bool false)], args := [d1, d2] }
  | _ => none }
def HunkAppliesWrongFalsely : Prop := hunkAppliesRow.holds Try.pinned (OpenSpec.ofChange hunkAppliesWrong)

/-- 'scrimlaw08.HunkInverts': WHATEVER THE INPUT: true; the input reads as it did. -/
def hunkInvertsSpec : ChangeSpec := { name := "hunkInverts", fn := fun _ => fun
  | [d] => { results := [.lit (.bool true)], args := [d] }
  | _ => none }
def hunkInvertsRow : OpenClaim := { program := "ytjmnbnlhahbcjaa", sum := "8da3d80a4ee3f053d07a59dccbcdafa651502b2d465d77350c8f6ed2cc90b450", func := "scrim/scrimlaw08.HunkInverts", spec := "hunkInverts", inPlace := ["internal/bytealg.IndexByteString", "internal/bytealg.IndexString"], named := ["internal/bytealg.MaxLen"], plainKeys := false, apart := false }
def HunkInvertsSaid : Prop := hunkInvertsRow.holds Try.pinned (OpenSpec.ofChange hunkInvertsSpec)

/-- ITS FALSE NEIGHBOUR: 'it returns false'. Refute it at one input. -/
def hunkInvertsWrong : ChangeSpec := { name := "hunkInverts", fn := fun _ => fun
  | [d] => { results := [.lit (.bool false)], args := [d] }
  | _ => none }
def HunkInvertsWrongFalsely : Prop := hunkInvertsRow.holds Try.pinned (OpenSpec.ofChange hunkInvertsWrong)

/-- 'scrimlaw08.HunkCounts': WHATEVER THE INPUT: true; the input reads as it did. -/
def hunkCountsSpec : ChangeSpec := { name := "hunkCounts", fn := fun _ => fun
  | [d1, d2, d3] => { results := [.lit (.bool true)], args := [d1, d2, d3] }
  | _ => none }
def hunkCountsRow : OpenClaim := { program := "ytjmnbnlhahbcjaa", sum := "8da3d80a4ee3f053d07a59dccbcdafa651502b2d465d77350c8f6ed2cc90b450", func := "scrim/scrimlaw08.HunkCounts", spec := "hunkCounts", inPlace := ["internal/bytealg.IndexByteString", "internal/bytealg.IndexString"], unfollowed := true, recurses := true, named := ["internal/bytealg.MaxLen"], plainKeys := false, apart := false }
def HunkCountsSaid : Prop := hunkCountsRow.holds Try.pinned (OpenSpec.ofChange hunkCountsSpec)

/-- ITS FALSE NEIGHBOUR: 'it returns false'. Refute it at one input. -/
def hunkCountsWrong : ChangeSpec := { name := "hunkCounts", fn := fun _ => fun
  | [d1, d2, d3] => { results := [.lit (.bool false)], args := [d1, d2, d3] }
  | _ => none }
def HunkCountsWrongFalsely : Prop := hunkCountsRow.holds Try.pinned (OpenSpec.ofChange hunkCountsWrong)

/-- 'scrimlaw08.HunkNames': WHATEVER THE INPUT: true; the input reads as it did. -/
def hunkNamesSpec : ChangeSpec := { name := "hunkNames", fn := fun _ => fun
  | [] => { results := [.lit (.bool true)], args := [] }
  | _ => none }
def hunkNamesRow : OpenClaim := { program := "ytjmnbnlhahbcjaa", sum := "8da3d80a4ee3f053d07a59dccbcdafa651502b2d465d77350c8f6ed2cc90b450", func := "scrim/scrimlaw08.HunkNames", spec := "hunkNames", inPlace := ["internal/bytealg.IndexByteString", "internal/bytealg.IndexString"], named := ["internal/bytealg.MaxLen"], plainKeys := false, apart := false }
def HunkNamesSaid : Prop := hunkNamesRow.holds Try.pinned (OpenSpec.ofChange hunkNamesSpec)

/-- ITS FALSE NEIGHBOUR: 'it returns false'. Refute it at one input. -/
def hunkNamesWrong : ChangeSpec := { name := "hunkNames", fn := fun _ => fun
  | [] => { results := [.lit (.bool false)], args := [] }
  | _ => none }
def HunkNamesWrongFalsely : Prop := hunkNamesRow.holds Try.pinned (OpenSpec.ofChange hunkNamesWrong)

/-- 'scrimlaw08.HunkUndone': WHATEVER THE INPUT: true; the input reads as it did. -/
def hunkUndoneSpec : ChangeSpec := { name := "hunkUndone", fn := fun _ => fun
  | [d1, d2] => { results := [.lit (.bool true)], args := [d1, d2] }
  | _ => none }
def hunkUndoneRow : OpenClaim := { program := "ytjmnbnlhahbcjaa", sum := "8da3d80a4ee3f053d07a59dccbcdafa651502b2d465d77350c8f6ed2cc90b450", func := "scrim/scrimlaw08.HunkUndone", spec := "hunkUndone", inPlace := ["internal/bytealg.IndexByteString", "internal/bytealg.IndexString"], named := ["internal/bytealg.MaxLen"], plainKeys := false, apart := false }
def HunkUndoneSaid : Prop := hunkUndoneRow.holds Try.pinned (OpenSpec.ofChange hunkUndoneSpec)

/-- ITS FALSE NEIGHBOUR: 'it returns false'. Refute it at one input. -/
def hunkUndoneWrong : ChangeSpec := { name := "hunkUndone", fn := fun _ => fun
  | [d1, d2] => { results := [.lit (.bool false)], args := [d1, d2] }
  | _ => none }
def HunkUndoneWrongFalsely : Prop := hunkUndoneRow.holds Try.pinned (OpenSpec.ofChange hunkUndoneWrong)

/-- 'scrimlaw08.HunkCounted': WHATEVER THE INPUT: true; the input reads as it did. -/
def hunkCountedSpec : ChangeSpec := { name := "hunkCounted", fn := fun _ => fun
  | [d1, d2] => { results := [.lit (.bool true)], args := [d1, d2] }
  | _ => none }
def hunkCountedRow : OpenClaim := { program := "ytjmnbnlhahbcjaa", sum := "8da3d80a4ee3f053d07a59dccbcdafa651502b2d465d77350c8f6ed2cc90b450", func := "scrim/scrimlaw08.HunkCounted", spec := "hunkCounted", inPlace := ["internal/bytealg.IndexByteString", "internal/bytealg.IndexString"], named := ["internal/bytealg.MaxLen"], plainKeys := false, apart := false }
def HunkCountedSaid : Prop := hunkCountedRow.holds Try.pinned (OpenSpec.ofChange hunkCountedSpec)

/-- ITS FALSE NEIGHBOUR: 'it returns false'. Refute it at one input. -/
def hunkCountedWrong : ChangeSpec := { name := "hunkCounted", fn := fun _ => fun
  | [d1, d2] => { results := [.lit (.bool false)], args := [d1, d2] }
  | _ => none }
def HunkCountedWrongFalsely : Prop := hunkCountedRow.holds Try.pinned (OpenSpec.ofChange hunkCountedWrong)

/- THE SECOND FORM. 'bulk': how many values and letters a reading holds, each counted each time it is reached (what is shared counts as often as it is met; a slice's spare places count too). A statement '..UptoSaid' is the law's where the arguments, and the package variables that the reading takes, are together of bulk at most 1048576: NARROWER than '..Said'. Prove '..Said' where nothing that the law and all that it calls make is longer than what came in: it says more and counts as full. Else prove '..UptoSaid'. A law counts once. -/
mutual
def uptoBulk {H : Type} : DataW H → Nat
  | .lit (.string bytes) => bytes.length + 1
  | .lit _ => 1
  | .nil => 1
  | .ptr d => uptoBulk d + 1
  | .slice elems spare => uptoBulkAll elems + uptoBulkAll spare + 1
  | .agg parts => uptoBulkAll parts + 1
  | .iface _ d => uptoBulk d + 1
  | .map entries => uptoBulkEntries entries + 1
  | .held _ => 1
def uptoBulkAll {H : Type} : List (DataW H) → Nat
  | [] => 0
  | d :: r => uptoBulk d + uptoBulkAll r
def uptoBulkEntries {H : Type} : List (Lit × DataW H) → Nat
  | [] => 0
  | x :: r => uptoBulkEntry x + uptoBulkEntries r
def uptoBulkEntry {H : Type} : Lit × DataW H → Nat
  | (.string bytes, d) => bytes.length + uptoBulk d + 1
  | (_, d) => uptoBulk d + 1
 end
def uptoSmall : (H : Type) → List (DataW H) → Bool := fun _ ds => decide (uptoBulkAll ds ≤ 1048576)
def OpenSpec.upto (s : _root_.Go.ChangeSpec) : _root_.Go.OpenSpec := { _root_.Go.OpenSpec.ofChange s with cond := some uptoSmall }

/-- 'scrimlaw04.IdentOrders', WHERE WHAT IT READS IS OF BULK AT MOST 1048576: true; the input reads as it did. -/
def identOrdersUptoRow : OpenClaim := { program := "ytjmnbnlhahbcjaa", sum := "8da3d80a4ee3f053d07a59dccbcdafa651502b2d465d77350c8f6ed2cc90b450", func := "scrim/scrimlaw04.IdentOrders", spec := "identOrders", unfollowed := true, recurses := true, plainKeys := false, apart := false, narrowed := true }
def IdentOrdersUptoSaid : Prop := identOrdersUptoRow.holds Try.pinned (OpenSpec.upto identOrdersSpec)

/-- 'scrimlaw07.DiffLines', WHERE WHAT IT READS IS OF BULK AT MOST 1048576: true; the input reads as it did. -/
def diffLinesUptoRow : OpenClaim := { program := "ytjmnbnlhahbcjaa", sum := "8da3d80a4ee3f053d07a59dccbcdafa651502b2d465d77350c8f6ed2cc90b450", func := "scrim/scrimlaw07.DiffLines", spec := "diffLines", unfollowed := true, recurses := true, plainKeys := false, apart := false, narrowed := true }
def DiffLinesUptoSaid : Prop := diffLinesUptoRow.holds Try.pinned (OpenSpec.upto diffLinesSpec)

/-- 'scrimlaw08.HunkChecks', WHERE WHAT IT READS IS OF BULK AT MOST 1048576: true; the input reads as it did. -/
def hunkChecksUptoRow : OpenClaim := { program := "ytjmnbnlhahbcjaa", sum := "8da3d80a4ee3f053d07a59dccbcdafa651502b2d465d77350c8f6ed2cc90b450", func := "scrim/scrimlaw08.HunkChecks", spec := "hunkChecks", inPlace := ["internal/bytealg.IndexByteString", "internal/bytealg.IndexString"], named := ["internal/bytealg.MaxLen"], plainKeys := false, apart := false, narrowed := true }
def HunkChecksUptoSaid : Prop := hunkChecksUptoRow.holds Try.pinned (OpenSpec.upto hunkChecksSpec)

/-- 'scrimlaw08.HunkApplies', WHERE WHAT IT READS IS OF BULK AT MOST 1048576: true; the input reads as it did. -/
def hunkAppliesUptoRow : OpenClaim := { program := "ytjmnbnlhahbcjaa", sum := "8da3d80a4ee3f053d07a59dccbcdafa651502b2d465d77350c8f6ed2cc90b450", func := "scrim/scrimlaw08.HunkApplies", spec := "hunkApplies", inPlace := ["internal/bytealg.IndexByteString", "internal/bytealg.IndexString"], named := ["internal/bytealg.MaxLen"], plainKeys := false, apart := false, narrowed := true }
def HunkAppliesUptoSaid : Prop := hunkAppliesUptoRow.holds Try.pinned (OpenSpec.upto hunkAppliesSpec)

/-- 'scrimlaw08.HunkInverts', WHERE WHAT IT READS IS OF BULK AT MOST 1048576: true; the input reads as it did. -/
def hunkInvertsUptoRow : OpenClaim := { program := "ytjmnbnlhahbcjaa", sum := "8da3d80a4ee3f053d07a59dccbcdafa651502b2d465d77350c8f6ed2cc90b450", func := "scrim/scrimlaw08.HunkInverts", spec := "hunkInverts", inPlace := ["internal/bytealg.IndexByteString", "internal/bytealg.IndexString"], named := ["internal/bytealg.MaxLen"], plainKeys := false, apart := false, narrowed := true }
def HunkInvertsUptoSaid : Prop := hunkInvertsUptoRow.holds Try.pinned (OpenSpec.upto hunkInvertsSpec)

/-- 'scrimlaw08.HunkCounts', WHERE WHAT IT READS IS OF BULK AT MOST 1048576: true; the input reads as it did. -/
def hunkCountsUptoRow : OpenClaim := { program := "ytjmnbnlhahbcjaa", sum := "8da3d80a4ee3f053d07a59dccbcdafa651502b2d465d77350c8f6ed2cc90b450", func := "scrim/scrimlaw08.HunkCounts", spec := "hunkCounts", inPlace := ["internal/bytealg.IndexByteString", "internal/bytealg.IndexString"], unfollowed := true, recurses := true, named := ["internal/bytealg.MaxLen"], plainKeys := false, apart := false, narrowed := true }
def HunkCountsUptoSaid : Prop := hunkCountsUptoRow.holds Try.pinned (OpenSpec.upto hunkCountsSpec)

/-- 'scrimlaw08.HunkNames', WHERE WHAT IT READS IS OF BULK AT MOST 1048576: true; the input reads as it did. -/
def hunkNamesUptoRow : OpenClaim := { program := "ytjmnbnlhahbcjaa", sum := "8da3d80a4ee3f053d07a59dccbcdafa651502b2d465d77350c8f6ed2cc90b450", func := "scrim/scrimlaw08.HunkNames", spec := "hunkNames", inPlace := ["internal/bytealg.IndexByteString", "internal/bytealg.IndexString"], named := ["internal/bytealg.MaxLen"], plainKeys := false, apart := false, narrowed := true }
def HunkNamesUptoSaid : Prop := hunkNamesUptoRow.holds Try.pinned (OpenSpec.upto hunkNamesSpec)

/-- 'scrimlaw08.HunkUndone', WHERE WHAT IT READS IS OF BULK AT MOST 1048576: true; the input reads as it did. -/
def hunkUndoneUptoRow : OpenClaim := { program := "ytjmnbnlhahbcjaa", sum := "8da3d80a4ee3f053d07a59dccbcdafa651502b2d465d77350c8f6ed2cc90b450", func := "scrim/scrimlaw08.HunkUndone", spec := "hunkUndone", inPlace := ["internal/bytealg.IndexByteString", "internal/bytealg.IndexString"], named := ["internal/bytealg.MaxLen"], plainKeys := false, apart := false, narrowed := true }
def HunkUndoneUptoSaid : Prop := hunkUndoneUptoRow.holds Try.pinned (OpenSpec.upto hunkUndoneSpec)

/-- 'scrimlaw08.HunkCounted', WHERE WHAT IT READS IS OF BULK AT MOST 1048576: true; the input reads as it did. -/
def hunkCountedUptoRow : OpenClaim := { program := "ytjmnbnlhahbcjaa", sum := "8da3d80a4ee3f053d07a59dccbcdafa651502b2d465d77350c8f6ed2cc90b450", func := "scrim/scrimlaw08.HunkCounted", spec := "hunkCounted", inPlace := ["internal/bytealg.IndexByteString", "internal/bytealg.IndexString"], named := ["internal/bytealg.MaxLen"], plainKeys := false, apart := false, narrowed := true }
def HunkCountedUptoSaid : Prop := hunkCountedUptoRow.holds Try.pinned (OpenSpec.upto hunkCountedSpec)

end Rows
end Go.Proofs.Ytjmnbnlhahbcjaa
