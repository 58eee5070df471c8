/-
  No cell of these rows narrows 'for every input' (looked for: loops, veiled, ifaces, maps, wideKeys, modest, calm, conditions, laid).
  DERIVED. THE GIVEN ROWS OF THIS SEAT. 9 by the template 'for every input the law returns true; each argument reads behind the call as it read before'; 0 by the template 'total and deterministic' (their statements: YtdpikdkhemhmdaaTotals.lean).
  GIVEN WITH THE SEED: the statements are not yours to turn. If you find one false, say at which input.
  Laid BY PROGRAM, IN A SANDBOX (cutbox-rows.mjs): the forced cells as the released guide's own fill.sh prints them over the translation 42e06ca0819a0084… (all of the seat's roots in one cut). By AI agents, Wed Nov 11 2026. No macro, syntax, notation, axiom, sorry.
-/
import Derived.Test.YtdpikdkhemhmdaaChecked
import GoSem.Claim
import GoSem.ClaimJoined
import GoSem.ClaimMapViews
import Derived.JoinedTies
import Derived.KernelRfl
namespace Go.Proofs.Ytdpikdkhemhmdaa
/- THE CELL 'sum', in the pinned program and in every row, IS THE sha256 OF THE DUMP (.gsa) THAT YtdpikdkhemhmdaaProg.lean LOADS. Nothing in Lean hashes anything: it is a label: what it is worth is what the hold of that sum in a sandbox is worth. -/
noncomputable def Try.pinned : Pinned := { name := "ytdpikdkhemhmdaa", sum := "42e06ca0819a0084e6e4f61caacd1171a6d5217f127b5104ad08d633b3bd0394", checked := Try.checked }
namespace Rows
def none {H : Type} : Left H := { results := [], args := [] }

/-- 'scrimlaw06.ViewTells': WHATEVER THE INPUT: true; the input reads as it did. -/
def viewTellsSpec : ChangeSpec := { name := "viewTells", fn := fun _ => fun
  | [d1, d2] => { results := [.lit (.bool true)], args := [d1, d2] }
  | _ => none }
def viewTellsRow : OpenClaim := { program := "ytdpikdkhemhmdaa", sum := "42e06ca0819a0084e6e4f61caacd1171a6d5217f127b5104ad08d633b3bd0394", func := "scrim/scrimlaw06.ViewTells", spec := "viewTells", unfollowed := true, recurses := true, plainKeys := false, apart := false }
def ViewTellsSaid : Prop := viewTellsRow.holds Try.pinned (OpenSpec.ofChange viewTellsSpec)

/-- ITS FALSE NEIGHBOUR: 'it returns false'. Refute it at one input. -/
def viewTellsWrong : ChangeSpec := { name := "viewTells", fn := fun _ => fun
  | [d1, d2] => { results := [.lit (.bool false)], args := [d1, d2] }
  | _ => none }
def ViewTellsWrongFalsely : Prop := viewTellsRow.holds Try.pinned (OpenSpec.ofChange viewTellsWrong)

/-- 'scrimlaw06.ViewOne': WHATEVER THE INPUT: true; the input reads as it did. -/
def viewOneSpec : ChangeSpec := { name := "viewOne", fn := fun _ => fun
  | [d1, d2] => { results := [.lit (.bool true)], args := [d1, d2] }
  | _ => none }
def viewOneRow : OpenClaim := { program := "ytdpikdkhemhmdaa", sum := "42e06ca0819a0084e6e4f61caacd1171a6d5217f127b5104ad08d633b3bd0394", func := "scrim/scrimlaw06.ViewOne", spec := "viewOne", plainKeys := false, apart := false }
def ViewOneSaid : Prop := viewOneRow.holds Try.pinned (OpenSpec.ofChange viewOneSpec)

/-- ITS FALSE NEIGHBOUR: 'it returns false'. Refute it at one input. -/
def viewOneWrong : ChangeSpec := { name := "viewOne", fn := fun _ => fun
  | [d1, d2] => { results := [.lit (.bool false)], args := [d1, d2] }
  | _ => none }
def ViewOneWrongFalsely : Prop := viewOneRow.holds Try.pinned (OpenSpec.ofChange viewOneWrong)

/-- 'scrimlaw06.ViewEach': WHATEVER THE INPUT: true; the input reads as it did. -/
def viewEachSpec : ChangeSpec := { name := "viewEach", fn := fun _ => fun
  | [d1, d2, d3] => { results := [.lit (.bool true)], args := [d1, d2, d3] }
  | _ => none }
def viewEachRow : OpenClaim := { program := "ytdpikdkhemhmdaa", sum := "42e06ca0819a0084e6e4f61caacd1171a6d5217f127b5104ad08d633b3bd0394", func := "scrim/scrimlaw06.ViewEach", spec := "viewEach", unfollowed := true, recurses := true, plainKeys := false, apart := false }
def ViewEachSaid : Prop := viewEachRow.holds Try.pinned (OpenSpec.ofChange viewEachSpec)

/-- ITS FALSE NEIGHBOUR: 'it returns false'. Refute it at one input. -/
def viewEachWrong : ChangeSpec := { name := "viewEach", fn := fun _ => fun
  | [d1, d2, d3] => { results := [.lit (.bool false)], args := [d1, d2, d3] }
  | _ => none }
def ViewEachWrongFalsely : Prop := viewEachRow.holds Try.pinned (OpenSpec.ofChange viewEachWrong)

/-- 'scrimlaw06.ViewPuts': WHATEVER THE INPUT: true; the input reads as it did. -/
def viewPutsSpec : ChangeSpec := { name := "viewPuts", fn := fun _ => fun
  | [d1, d2, d3] => { results := [.lit (.bool true)], args := [d1, d2, d3] }
  | _ => none }
def viewPutsRow : OpenClaim := { program := "ytdpikdkhemhmdaa", sum := "42e06ca0819a0084e6e4f61caacd1171a6d5217f127b5104ad08d633b3bd0394", func := "scrim/scrimlaw06.ViewPuts", spec := "viewPuts", unfollowed := true, recurses := true, plainKeys := false, apart := false }
def ViewPutsSaid : Prop := viewPutsRow.holds Try.pinned (OpenSpec.ofChange viewPutsSpec)

/-- ITS FALSE NEIGHBOUR: 'it returns false'. Refute it at one input. -/
def viewPutsWrong : ChangeSpec := { name := "viewPuts", fn := fun _ => fun
  | [d1, d2, d3] => { results := [.lit (.bool false)], args := [d1, d2, d3] }
  | _ => none }
def ViewPutsWrongFalsely : Prop := viewPutsRow.holds Try.pinned (OpenSpec.ofChange viewPutsWrong)

/-- 'scrimlaw06.ViewNames': WHATEVER THE INPUT: true; the input reads as it did. -/
def viewNamesSpec : ChangeSpec := { name := "viewNames", fn := fun _ => fun
  | [] => { results := [.lit (.bool true)], args := [] }
  | _ => none }
def viewNamesRow : OpenClaim := { program := "ytdpikdkhemhmdaa", sum := "42e06ca0819a0084e6e4f61caacd1171a6d5217f127b5104ad08d633b3bd0394", func := "scrim/scrimlaw06.ViewNames", spec := "viewNames", unfollowed := true, recurses := true, plainKeys := false, apart := false }
def ViewNamesSaid : Prop := viewNamesRow.holds Try.pinned (OpenSpec.ofChange viewNamesSpec)

/-- ITS FALSE NEIGHBOUR: 'it returns false'. Refute it at one input. -/
def viewNamesWrong : ChangeSpec := { name := "viewNames", fn := fun _ => fun
  | [] => { results := [.lit (.bool false)], args := [] }
  | _ => none }
def ViewNamesWrongFalsely : Prop := viewNamesRow.holds Try.pinned (OpenSpec.ofChange viewNamesWrong)

/-- 'scrimlaw06.ViewLess': WHATEVER THE INPUT: true; the input reads as it did. -/
def viewLessSpec : ChangeSpec := { name := "viewLess", fn := fun _ => fun
  | [d1, d2, d3] => { results := [.lit (.bool true)], args := [d1, d2, d3] }
  | _ => none }
def viewLessRow : OpenClaim := { program := "ytdpikdkhemhmdaa", sum := "42e06ca0819a0084e6e4f61caacd1171a6d5217f127b5104ad08d633b3bd0394", func := "scrim/scrimlaw06.ViewLess", spec := "viewLess", unfollowed := true, recurses := true, plainKeys := false, apart := false }
def ViewLessSaid : Prop := viewLessRow.holds Try.pinned (OpenSpec.ofChange viewLessSpec)

/-- ITS FALSE NEIGHBOUR: 'it returns false'. Refute it at one input. -/
def viewLessWrong : ChangeSpec := { name := "viewLess", fn := fun _ => fun
  | [d1, d2, d3] => { results := [.lit (.bool false)], args := [d1, d2, d3] }
  | _ => none }
def ViewLessWrongFalsely : Prop := viewLessRow.holds Try.pinned (OpenSpec.ofChange viewLessWrong)

/-- 'scrimlaw06.ViewNothing': WHATEVER THE INPUT: true; the input reads as it did. -/
def viewNothingSpec : ChangeSpec := { name := "viewNothing", fn := fun _ => fun
  | [d1, d2, d3, d4, d5] => { results := [.lit (.bool true)], args := [d1, d2, d3, d4, d5] }
  | _ => none }
def viewNothingRow : OpenClaim := { program := "ytdpikdkhemhmdaa", sum := "42e06ca0819a0084e6e4f61caacd1171a6d5217f127b5104ad08d633b3bd0394", func := "scrim/scrimlaw06.ViewNothing", spec := "viewNothing", unfollowed := true, recurses := true, plainKeys := false, apart := false }
def ViewNothingSaid : Prop := viewNothingRow.holds Try.pinned (OpenSpec.ofChange viewNothingSpec)

/-- ITS FALSE NEIGHBOUR: 'it returns false'. Refute it at one input. -/
def viewNothingWrong : ChangeSpec := { name := "viewNothing", fn := fun _ => fun
  | [d1, d2, d3, d4, d5] => { results := [.lit (.bool false)], args := [d1, d2, d3, d4, d5] }
  | _ => none }
def ViewNothingWrongFalsely : Prop := viewNothingRow.holds Try.pinned (OpenSpec.ofChange viewNothingWrong)

/-- 'scrimlaw06.ViewPut': WHATEVER THE INPUT: true; the input reads as it did. -/
def viewPutSpec : ChangeSpec := { name := "viewPut", fn := fun _ => fun
  | [d1, d2] => { results := [.lit (.bool true)], args := [d1, d2] }
  | _ => none }
def viewPutRow : OpenClaim := { program := "ytdpikdkhemhmdaa", sum := "42e06ca0819a0084e6e4f61caacd1171a6d5217f127b5104ad08d633b3bd0394", func := "scrim/scrimlaw06.ViewPut", spec := "viewPut", unfollowed := true, recurses := true, plainKeys := false, apart := false }
def ViewPutSaid : Prop := viewPutRow.holds Try.pinned (OpenSpec.ofChange viewPutSpec)

/-- ITS FALSE NEIGHBOUR: 'it returns false'. Refute it at one input. -/
def viewPutWrong : ChangeSpec := { name := "viewPut", fn := fun _ => fun
  | [d1, d2] => { results := [.lit (.bool false)], args := [d1, d2] }
  | _ => none }
def ViewPutWrongFalsely : Prop := viewPutRow.holds Try.pinned (OpenSpec.ofChange viewPutWrong)

/-- 'scrimlaw04.IdentOrders': WHATEVER THE INPUT: true; the input reads as it did. -/
def identOrdersSpec : ChangeSpec := { name := "identOrders", fn := fun _ => fun
  | [d1, d2, d3] => { results := [.lit (.bool true)], args := [d1, d2, d3] }
  | _ => none }
def identOrdersRow : OpenClaim := { program := "ytdpikdkhemhmdaa", sum := "42e06ca0819a0084e6e4f61caacd1171a6d5217f127b5104ad08d633b3bd0394", func := "scrim/scrimlaw04.IdentOrders", spec := "identOrders", unfollowed := true, recurses := true, plainKeys := false, apart := false }
def IdentOrdersSaid : Prop := identOrdersRow.holds Try.pinned (OpenSpec.ofChange identOrdersSpec)

/-- ITS FALSE NEIGHBOUR: 'it returns false'. Refute it at one input. -/
def identOrdersWrong : ChangeSpec := { name := "identOrders", fn := fun _ => fun
  | [d1, d2, d3] => { results := [.lit (.bool false)], args := [d1, d2, d3] }
  | _ => none }
def IdentOrdersWrongFalsely : Prop := identOrdersRow.holds Try.pinned (OpenSpec.ofChange identOrdersWrong)

/- THE SECOND FORM. 'bulk': how many values and letters a reading holds, each counted each time it is reached (what is shared counts as often as it is met; a slice's spare places count too). A statement '..UptoSaid' is the law's where the arguments, and the package variables that the reading takes, are together of bulk at most 1048576: NARROWER than '..Said'. Prove '..Said' where nothing that the law and all that it calls make is longer than what came in: it says more and counts as full. Else prove '..UptoSaid'. A law counts once. -/
mutual
def uptoBulk {H : Type} : DataW H → Nat
  | .lit (.string bytes) => bytes.length + 1
  | .lit _ => 1
  | .nil => 1
  | .ptr d => uptoBulk d + 1
  | .slice elems spare => uptoBulkAll elems + uptoBulkAll spare + 1
  | .agg parts => uptoBulkAll parts + 1
  | .iface _ d => uptoBulk d + 1
  | .map entries => uptoBulkEntries entries + 1
  | .held _ => 1
def uptoBulkAll {H : Type} : List (DataW H) → Nat
  | [] => 0
  | d :: r => uptoBulk d + uptoBulkAll r
def uptoBulkEntries {H : Type} : List (Lit × DataW H) → Nat
  | [] => 0
  | x :: r => uptoBulkEntry x + uptoBulkEntries r
def uptoBulkEntry {H : Type} : Lit × DataW H → Nat
  | (.string bytes, d) => bytes.length + uptoBulk d + 1
  | (_, d) => uptoBulk d + 1
 end
def uptoSmall : (H : Type) → List (DataW H) → Bool := fun _ ds => decide (uptoBulkAll ds ≤ 1048576)
def OpenSpec.upto (s : _root_.Go.ChangeSpec) : _root_.Go.OpenSpec := { _root_.Go.OpenSpec.ofChange s with cond := some uptoSmall }

/-- 'scrimlaw06.ViewTells', WHERE WHAT IT READS IS OF BULK AT MOST 1048576: true; the input reads as it did. -/
def viewTellsUptoRow : OpenClaim := { program := "ytdpikdkhemhmdaa", sum := "42e06ca0819a0084e6e4f61caacd1171a6d5217f127b5104ad08d633b3bd0394", func := "scrim/scrimlaw06.ViewTells", spec := "viewTells", unfollowed := true, recurses := true, plainKeys := false, apart := false, narrowed := true }
def ViewTellsUptoSaid : Prop := viewTellsUptoRow.holds Try.pinned (OpenSpec.upto viewTellsSpec)

/-- 'scrimlaw06.ViewOne', WHERE WHAT IT READS IS OF BULK AT MOST 1048576: true; the input reads as it did. -/
def viewOneUptoRow : OpenClaim := { program := "ytdpikdkhemhmdaa", sum := "42e06ca0819a0084e6e4f61caacd1171a6d5217f127b5104ad08d633b3bd0394", func := "scrim/scrimlaw06.ViewOne", spec := "viewOne", plainKeys := false, apart := false, narrowed := true }
def ViewOneUptoSaid : Prop := viewOneUptoRow.holds Try.pinned (OpenSpec.upto viewOneSpec)

/-- 'scrimlaw06.ViewEach', WHERE WHAT IT READS IS OF BULK AT MOST 1048576: true; the input reads as it did. -/
def viewEachUptoRow : OpenClaim := { program := "ytdpikdkhemhmdaa", sum := "42e06ca0819a0084e6e4f61caacd1171a6d5217f127b5104ad08d633b3bd0394", func := "scrim/scrimlaw06.ViewEach", spec := "viewEach", unfollowed := true, recurses := true, plainKeys := false, apart := false, narrowed := true }
def ViewEachUptoSaid : Prop := viewEachUptoRow.holds Try.pinned (OpenSpec.upto viewEachSpec)

/-- 'scrimlaw06.ViewPuts', WHERE WHAT IT READS IS OF BULK AT MOST 1048576: true; the input reads as it did. -/
def viewPutsUptoRow : OpenClaim := { program := "ytdpikdkhemhmdaa", sum := "42e06ca0819a0084e6e4f61caacd1171a6d5217f127b5104ad08d633b3bd0394", func := "scrim/scrimlaw06.ViewPuts", spec := "viewPuts", unfollowed := true, recurses := true, plainKeys := false, apart := false, narrowed := true }
def ViewPutsUptoSaid : Prop := viewPutsUptoRow.holds Try.pinned (OpenSpec.upto viewPutsSpec)

/-- 'scrimlaw06.ViewNames', WHERE WHAT IT READS IS OF BULK AT MOST 1048576: true; the input reads as it did. -/
def viewNamesUptoRow : OpenClaim := { program := "ytdpikdkhemhmdaa", sum := "42e06ca0819a0084e6e4f61caacd1171a6d5217f127b5104ad08d633b3bd0394", func := "scrim/scrimlaw06.ViewNames", spec := "viewNames", unfollowed := true, recurses := true, plainKeys := false, apart := false, narrowed := true }
def ViewNamesUptoSaid : Prop := viewNamesUptoRow.holds Try.pinned (OpenSpec.upto viewNamesSpec)

/-- 'scrimlaw06.ViewLess', WHERE WHAT IT READS IS OF BULK AT MOST 1048576: true; the input reads as it did. -/
def viewLessUptoRow : OpenClaim := { program := "ytdpikdkhemhmdaa", sum := "42e06ca0819a0084e6e4f61caacd1171a6d5217f127b5104ad08d633b3bd0394", func := "scrim/scrimlaw06.ViewLess", spec := "viewLess", unfollowed := true, recurses := true, plainKeys := false, apart := false, narrowed := true }
def ViewLessUptoSaid : Prop := viewLessUptoRow.holds Try.pinned (OpenSpec.upto viewLessSpec)

/-- 'scrimlaw06.ViewNothing', WHERE WHAT IT READS IS OF BULK AT MOST 1048576: true; the input reads as it did. -/
def viewNothingUptoRow : OpenClaim := { program := "ytdpikdkhemhmdaa", sum := "42e06ca0819a0084e6e4f61caacd1171a6d5217f127b5104ad08d633b3bd0394", func := "scrim/scrimlaw06.ViewNothing", spec := "viewNothing", unfollowed := true, recurses := true, plainKeys := false, apart := false, narrowed := true }
def ViewNothingUptoSaid : Prop := viewNothingUptoRow.holds Try.pinned (OpenSpec.upto viewNothingSpec)

/-- 'scrimlaw06.ViewPut', WHERE WHAT IT READS IS OF BULK AT MOST 1048576: true; the input reads as it did. -/
def viewPutUptoRow : OpenClaim := { program := "ytdpikdkhemhmdaa", sum := "42e06ca0819a0084e6e4f61caacd1171a6d5217f127b5104ad08d633b3bd0394", func := "scrim/scrimlaw06.ViewPut", spec := "viewPut", unfollowed := true, recurses := true, plainKeys := false, apart := false, narrowed := true }
def ViewPutUptoSaid : Prop := viewPutUptoRow.holds Try.pinned (OpenSpec.upto viewPutSpec)

/-- 'scrimlaw04.IdentOrders', WHERE WHAT IT READS IS OF BULK AT MOST 1048576: true; the input reads as it did. -/
def identOrdersUptoRow : OpenClaim := { program := "ytdpikdkhemhmdaa", sum := "42e06ca0819a0084e6e4f61caacd1171a6d5217f127b5104ad08d633b3bd0394", func := "scrim/scrimlaw04.IdentOrders", spec := "identOrders", unfollowed := true, recurses := true, plainKeys := false, apart := false, narrowed := true }
def IdentOrdersUptoSaid : Prop := identOrdersUptoRow.holds Try.pinned (OpenSpec.upto identOrdersSpec)

end Rows
end Go.Proofs.Ytdpikdkhemhmdaa
