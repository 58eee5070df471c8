/-
  No cell of these rows narrows 'for every input' (looked for: loops, veiled, ifaces, maps, wideKeys, modest, calm, conditions, laid).
  DERIVED. THE GIVEN ROWS OF THIS SEAT. 2 by the template 'for every input the law returns true; each argument reads behind the call as it read before'; 0 by the template 'total and deterministic' (their statements: YtglpkadpohbfmaaTotals.lean).
  GIVEN WITH THE SEED: the statements are not yours to turn. If you find one false, say at which input.
  Laid BY PROGRAM, IN A SANDBOX (cutbox-rows.mjs): the forced cells as the released guide's own fill.sh prints them over the translation 23eb56dac12596ea… (all of the seat's roots in one cut). By AI agents, Wed Nov 11 2026. No macro, syntax, notation, axiom, sorry.
-/
import Derived.Test.YtglpkadpohbfmaaChecked
import GoSem.Claim
import GoSem.ClaimJoined
import GoSem.ClaimMapViews
import Derived.JoinedTies
import Derived.KernelRfl
namespace Go.Proofs.Ytglpkadpohbfmaa
/- THE CELL 'sum', in the pinned program and in every row, IS THE sha256 OF THE DUMP (.gsa) THAT YtglpkadpohbfmaaProg.lean LOADS. Nothing in Lean hashes anything: it is a label: what it is worth is what the hold of that sum in a sandbox is worth. -/
noncomputable def Try.pinned : Pinned := { name := "ytglpkadpohbfmaa", sum := "23eb56dac12596eac21ed9f56a81836ee4a3d98d8594006e3fddb85be3e632e6", checked := Try.checked }
namespace Rows
def none {H : Type} : Left H := { results := [], args := [] }

/-- 'scrimlaw02.LabelHighest': WHATEVER THE INPUT: true; the input reads as it did. -/
def labelHighestSpec : ChangeSpec := { name := "labelHighest", fn := fun _ => fun
  | [d] => { results := [.lit (.bool true)], args := [d] }
  | _ => none }
def labelHighestRow : OpenClaim := { program := "ytglpkadpohbfmaa", sum := "23eb56dac12596eac21ed9f56a81836ee4a3d98d8594006e3fddb85be3e632e6", func := "scrim/scrimlaw02.LabelHighest", spec := "labelHighest", unfollowed := true, recurses := true, apart := false }
def LabelHighestSaid : Prop := labelHighestRow.holds Try.pinned (OpenSpec.ofChange labelHighestSpec)

/-- ITS FALSE NEIGHBOUR: 'it returns false'. Refute it at one input. -/
def labelHighestWrong : ChangeSpec := { name := "labelHighest", fn := fun _ => fun
  | [d] => { results := [.lit (.bool false)], args := [d] }
  | _ => none }
def LabelHighestWrongFalsely : Prop := labelHighestRow.holds Try.pinned (OpenSpec.ofChange labelHighestWrong)

/-- 'scrimlaw02.LabelBetween': WHATEVER THE INPUT: true; the input reads as it did. -/
def labelBetweenSpec : ChangeSpec := { name := "labelBetween", fn := fun _ => fun
  | [d1, d2, d3] => { results := [.lit (.bool true)], args := [d1, d2, d3] }
  | _ => none }
def labelBetweenRow : OpenClaim := { program := "ytglpkadpohbfmaa", sum := "23eb56dac12596eac21ed9f56a81836ee4a3d98d8594006e3fddb85be3e632e6", func := "scrim/scrimlaw02.LabelBetween", spec := "labelBetween", unfollowed := true, recurses := true, apart := false }
def LabelBetweenSaid : Prop := labelBetweenRow.holds Try.pinned (OpenSpec.ofChange labelBetweenSpec)

/-- ITS FALSE NEIGHBOUR: 'it returns false'. Refute it at one input. -/
def labelBetweenWrong : ChangeSpec := { name := "labelBetween", fn := fun _ => fun
  | [d1, d2, d3] => { results := [.lit (.bool false)], args := [d1, d2, d3] }
  | _ => none }
def LabelBetweenWrongFalsely : Prop := labelBetweenRow.holds Try.pinned (OpenSpec.ofChange labelBetweenWrong)

/- THE SECOND FORM. 'bulk': how many values and letters a reading holds, each counted each time it is reached (what is shared counts as often as it is met; a slice's spare places count too). A statement '..UptoSaid' is the law's where the arguments, and the package variables that the reading takes, are together of bulk at most 1048576: NARROWER than '..Said'. Prove '..Said' where nothing that the law and all that it calls make is longer than what came in: it says more and counts as full. Else prove '..UptoSaid'. A law counts once. -/
mutual
def uptoBulk {H : Type} : DataW H → Nat
  | .lit (.string bytes) => bytes.length + 1
  | .lit _ => 1
  | .nil => 1
  | .ptr d => uptoBulk d + 1
  | .slice elems spare => uptoBulkAll elems + uptoBulkAll spare + 1
  | .agg parts => uptoBulkAll parts + 1
  | .iface _ d => uptoBulk d + 1
  | .map entries => uptoBulkEntries entries + 1
  | .held _ => 1
def uptoBulkAll {H : Type} : List (DataW H) → Nat
  | [] => 0
  | d :: r => uptoBulk d + uptoBulkAll r
def uptoBulkEntries {H : Type} : List (Lit × DataW H) → Nat
  | [] => 0
  | x :: r => uptoBulkEntry x + uptoBulkEntries r
def uptoBulkEntry {H : Type} : Lit × DataW H → Nat
  | (.string bytes, d) => bytes.length + uptoBulk d + 1
  | (_, d) => uptoBulk d + 1
 end
def uptoSmall : (H : Type) → List (DataW H) → Bool := fun _ ds => decide (uptoBulkAll ds ≤ 1048576)
def OpenSpec.upto (s : _root_.Go.ChangeSpec) : _root_.Go.OpenSpec := { _root_.Go.OpenSpec.ofChange s with cond := some uptoSmall }

/-- 'scrimlaw02.LabelHighest', WHERE WHAT IT READS IS OF BULK AT MOST 1048576: true; the input reads as it did. -/
def labelHighestUptoRow : OpenClaim := { program := "ytglpkadpohbfmaa", sum := "23eb56dac12596eac21ed9f56a81836ee4a3d98d8594006e3fddb85be3e632e6", func := "scrim/scrimlaw02.LabelHighest", spec := "labelHighest", unfollowed := true, recurses := true, apart := false, narrowed := true }
def LabelHighestUptoSaid : Prop := labelHighestUptoRow.holds Try.pinned (OpenSpec.upto labelHighestSpec)

/-- 'scrimlaw02.LabelBetween', WHERE WHAT IT READS IS OF BULK AT MOST 1048576: true; the input reads as it did. -/
def labelBetweenUptoRow : OpenClaim := { program := "ytglpkadpohbfmaa", sum := "23eb56dac12596eac21ed9f56a81836ee4a3d98d8594006e3fddb85be3e632e6", func := "scrim/scrimlaw02.LabelBetween", spec := "labelBetween", unfollowed := true, recurses := true, apart := false, narrowed := true }
def LabelBetweenUptoSaid : Prop := labelBetweenUptoRow.holds Try.pinned (OpenSpec.upto labelBetweenSpec)

end Rows
end Go.Proofs.Ytglpkadpohbfmaa
