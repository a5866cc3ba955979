/-
  No cell of these rows narrows 'for every input' (looked for: loops, veiled, ifaces, maps, wideKeys, modest, calm, conditions, laid).
  DERIVED. THE GIVEN ROWS OF THIS SEAT. 6 by the template 'for every input the law returns true; each argument reads behind the call as it read before'; 0 by the template 'total and deterministic' (their statements: YteolepmopajamaaTotals.lean).
  GIVEN WITH THE SEED: the statements are not yours to turn. If you find one false, say at which input.
  Laid BY PROGRAM, IN A SANDBOX (cutbox-rows.mjs): the forced cells as the released guide's own fill.sh prints them over the translation f376f9d9b2ec809e… (all of the seat's roots in one cut). By AI agents, Wed Nov 11 2026. No macro, syntax, notation, axiom, sorry.
-/
import Derived.Test.YteolepmopajamaaChecked
import GoSem.Claim
import GoSem.ClaimJoined
import GoSem.ClaimMapViews
import Derived.JoinedTies
import Derived.KernelRfl
namespace Go.Proofs.Yteolepmopajamaa
/- THE CELL 'sum', in the pinned program and in every row, IS THE sha256 OF THE DUMP (.gsa) THAT YteolepmopajamaaProg.lean LOADS. Nothing in Lean hashes anything: it is a label: what it is worth is what the hold of that sum in a sandbox is worth. -/
noncomputable def Try.pinned : Pinned := { name := "yteolepmopajamaa", sum := "f376f9d9b2ec809ebb6f28cd3f36626198cca9f9c9cfa4a0bec0e14b211be31b", checked := Try.checked }
namespace Rows
def none {H : Type} : Left H := { results := [], args := [] }

/-- 'pendulumlaw06.ParseRight': WHATEVER THE INPUT: true; the input reads as it did. -/
def parseRightSpec : ChangeSpec := { name := "parseRight", fn := fun _ => fun
  | [d] => { results := [.lit (.bool true)], args := [d] }
  | _ => none }
def parseRightRow : OpenClaim := { program := "yteolepmopajamaa", sum := "f376f9d9b2ec809ebb6f28cd3f36626198cca9f9c9cfa4a0bec0e14b211be31b", func := "pendulum/pendulumlaw06.ParseRight", spec := "parseRight", unfollowed := true, recurses := true, apart := false }
def ParseRightSaid : Prop := parseRightRow.holds Try.pinned (OpenSpec.ofChange parseRightSpec)

/-- ITS FALSE NEIGHBOUR: 'it returns false'. Refute it at one input. -/
def parseRightWrong : ChangeSpec := { name := "parseRight", fn := fun _ => fun
  | [d] => { results := [.lit (.bool false)], args := [d] }
  | _ => none }
def ParseRightWrongFalsely : Prop := parseRightRow.holds Try.pinned (OpenSpec.ofChange parseRightWrong)

/-- 'pendulumlaw06.ParseModes': WHATEVER THE INPUT: true; the input reads as it did. -/
def parseModesSpec : ChangeSpec := { name := "parseModes", fn := fun _ => fun
  | [d] => { results := [.lit (.bool true)], args := [d] }
  | _ => none }
def parseModesRow : OpenClaim := { program := "yteolepmopajamaa", sum := "f376f9d9b2ec809ebb6f28cd3f36626198cca9f9c9cfa4a0bec0e14b211be31b", func := "pendulum/pendulumlaw06.ParseModes", spec := "parseModes", unfollowed := true, recurses := true, apart := false }
def ParseModesSaid : Prop := parseModesRow.holds Try.pinned (OpenSpec.ofChange parseModesSpec)

/-- ITS FALSE NEIGHBOUR: 'it returns false'. Refute it at one input. -/
def parseModesWrong : ChangeSpec := { name := "parseModes", fn := fun _ => fun
  | [d] => { results := [.lit (.bool false)], args := [d] }
  | _ => none }
def ParseModesWrongFalsely : Prop := parseModesRow.holds Try.pinned (OpenSpec.ofChange parseModesWrong)

/-- 'pendulumlaw06.ParseBlanks': WHATEVER THE INPUT: true; the input reads as it did. -/
def parseBlanksSpec : ChangeSpec := { name := "parseBlanks", fn := fun _ => fun
  | [d] => { results := [.lit (.bool true)], args := [d] }
  | _ => none }
def parseBlanksRow : OpenClaim := { program := "yteolepmopajamaa", sum := "f376f9d9b2ec809ebb6f28cd3f36626198cca9f9c9cfa4a0bec0e14b211be31b", func := "pendulum/pendulumlaw06.ParseBlanks", spec := "parseBlanks", unfollowed := true, recurses := true, apart := false }
def ParseBlanksSaid : Prop := parseBlanksRow.holds Try.pinned (OpenSpec.ofChange parseBlanksSpec)

/-- ITS FALSE NEIGHBOUR: 'it returns false'. Refute it at one input. -/
def parseBlanksWrong : ChangeSpec := { name := "parseBlanks", fn := fun _ => fun
  | [d] => { results := [.lit (.bool false)], args := [d] }
  | _ => none }
def ParseBlanksWrongFalsely : Prop := parseBlanksRow.holds Try.pinned (OpenSpec.ofChange parseBlanksWrong)

/-- 'pendulumlaw06.ParseKeeps': WHATEVER THE INPUT: true; the input reads as it did. -/
def parseKeepsSpec : ChangeSpec := { name := "parseKeeps", fn := fun _ => fun
  | [d] => { results := [.lit (.bool true)], args := [d] }
  | _ => none }
def parseKeepsRow : OpenClaim := { program := "yteolepmopajamaa", sum := "f376f9d9b2ec809ebb6f28cd3f36626198cca9f9c9cfa4a0bec0e14b211be31b", func := "pendulum/pendulumlaw06.ParseKeeps", spec := "parseKeeps", unfollowed := true, recurses := true, apart := false }
def ParseKeepsSaid : Prop := parseKeepsRow.holds Try.pinned (OpenSpec.ofChange parseKeepsSpec)

/-- ITS FALSE NEIGHBOUR: 'it returns false'. Refute it at one input. -/
def parseKeepsWrong : ChangeSpec := { name := "parseKeeps", fn := fun _ => fun
  | [d] => { results := [.lit (.bool false)], args := [d] }
  | _ => none }
def ParseKeepsWrongFalsely : Prop := parseKeepsRow.holds Try.pinned (OpenSpec.ofChange parseKeepsWrong)

/-- 'pendulumlaw06.ParseTwice': WHATEVER THE INPUT: true; the input reads as it did. -/
def parseTwiceSpec : ChangeSpec := { name := "parseTwice", fn := fun _ => fun
  | [d] => { results := [.lit (.bool true)], args := [d] }
  | _ => none }
def parseTwiceRow : OpenClaim := { program := "yteolepmopajamaa", sum := "f376f9d9b2ec809ebb6f28cd3f36626198cca9f9c9cfa4a0bec0e14b211be31b", func := "pendulum/pendulumlaw06.ParseTwice", spec := "parseTwice", unfollowed := true, recurses := true, apart := false }
def ParseTwiceSaid : Prop := parseTwiceRow.holds Try.pinned (OpenSpec.ofChange parseTwiceSpec)

/-- ITS FALSE NEIGHBOUR: 'it returns false'. Refute it at one input. -/
def parseTwiceWrong : ChangeSpec := { name := "parseTwice", fn := fun _ => fun
  | [d] => { results := [.lit (.bool false)], args := [d] }
  | _ => none }
def ParseTwiceWrongFalsely : Prop := parseTwiceRow.holds Try.pinned (OpenSpec.ofChange parseTwiceWrong)

/-- 'pendulumlaw06.ParseCuts': WHATEVER THE INPUT: true; the input reads as it did. -/
def parseCutsSpec : ChangeSpec := { name := "parseCuts", fn := fun _ => fun
  | [d1, d2] => { results := [.lit (.bool true)], args := [d1, d2] }
  | _ => none }
def parseCutsRow : OpenClaim := { program := "yteolepmopajamaa", sum := "f376f9d9b2ec809ebb6f28cd3f36626198cca9f9c9cfa4a0bec0e14b211be31b", func := "pendulum/pendulumlaw06.ParseCuts", spec := "parseCuts", unfollowed := true, recurses := true, apart := false }
def ParseCutsSaid : Prop := parseCutsRow.holds Try.pinned (OpenSpec.ofChange parseCutsSpec)

/-- ITS FALSE NEIGHBOUR: 'it returns false'. Refute it at one input. -/
def parseCutsWrong : ChangeSpec := { name := "parseCuts", fn := fun _ => fun
  | [d1, d2] => { results := [.lit (.bool false)], args := [d1, d2] }
  | _ => none }
def ParseCutsWrongFalsely : Prop := parseCutsRow.holds Try.pinned (OpenSpec.ofChange parseCutsWrong)

/- THE SECOND FORM. 'bulk': how many values and letters a reading holds, each counted each time it is reached (what is shared counts as often as it is met; a slice's spare places count too). A statement '..UptoSaid' is the law's where the arguments, and the package variables that the reading takes, are together of bulk at most 1048576: NARROWER than '..Said'. Prove '..Said' where nothing that the law and all that it calls make is longer than what came in: it says more and counts as full. Else prove '..UptoSaid'. A law counts once. -/
mutual
def uptoBulk {H : Type} : DataW H → Nat
  | .lit (.string bytes) => bytes.length + 1
  | .lit _ => 1
  | .nil => 1
  | .ptr d => uptoBulk d + 1
  | .slice elems spare => uptoBulkAll elems + uptoBulkAll spare + 1
  | .agg parts => uptoBulkAll parts + 1
  | .iface _ d => uptoBulk d + 1
  | .map entries => uptoBulkEntries entries + 1
  | .held _ => 1
def uptoBulkAll {H : Type} : List (DataW H) → Nat
  | [] => 0
  | d :: r => uptoBulk d + uptoBulkAll r
def uptoBulkEntries {H : Type} : List (Lit × DataW H) → Nat
  | [] => 0
  | x :: r => uptoBulkEntry x + uptoBulkEntries r
def uptoBulkEntry {H : Type} : Lit × DataW H → Nat
  | (.string bytes, d) => bytes.length + uptoBulk d + 1
  | (_, d) => uptoBulk d + 1
 end
def uptoSmall : (H : Type) → List (DataW H) → Bool := fun _ ds => decide (uptoBulkAll ds ≤ 1048576)
def OpenSpec.upto (s : _root_.Go.ChangeSpec) : _root_.Go.OpenSpec := { _root_.Go.OpenSpec.ofChange s with cond := some uptoSmall }

/-- 'pendulumlaw06.ParseRight', WHERE WHAT IT READS IS OF BULK AT MOST 1048576: true; the input reads as it did. -/
def parseRightUptoRow : OpenClaim := { program := "yteolepmopajamaa", sum := "f376f9d9b2ec809ebb6f28cd3f36626198cca9f9c9cfa4a0bec0e14b211be31b", func := "pendulum/pendulumlaw06.ParseRight", spec := "parseRight", unfollowed := true, recurses := true, apart := false, narrowed := true }
def ParseRightUptoSaid : Prop := parseRightUptoRow.holds Try.pinned (OpenSpec.upto parseRightSpec)

/-- 'pendulumlaw06.ParseModes', WHERE WHAT IT READS IS OF BULK AT MOST 1048576: true; the input reads as it did. -/
def parseModesUptoRow : OpenClaim := { program := "yteolepmopajamaa", sum := "f376f9d9b2ec809ebb6f28cd3f36626198cca9f9c9cfa4a0bec0e14b211be31b", func := "pendulum/pendulumlaw06.ParseModes", spec := "parseModes", unfollowed := true, recurses := true, apart := false, narrowed := true }
def ParseModesUptoSaid : Prop := parseModesUptoRow.holds Try.pinned (OpenSpec.upto parseModesSpec)

/-- 'pendulumlaw06.ParseBlanks', WHERE WHAT IT READS IS OF BULK AT MOST 1048576: true; the input reads as it did. -/
def parseBlanksUptoRow : OpenClaim := { program := "yteolepmopajamaa", sum := "f376f9d9b2ec809ebb6f28cd3f36626198cca9f9c9cfa4a0bec0e14b211be31b", func := "pendulum/pendulumlaw06.ParseBlanks", spec := "parseBlanks", unfollowed := true, recurses := true, apart := false, narrowed := true }
def ParseBlanksUptoSaid : Prop := parseBlanksUptoRow.holds Try.pinned (OpenSpec.upto parseBlanksSpec)

/-- 'pendulumlaw06.ParseKeeps', WHERE WHAT IT READS IS OF BULK AT MOST 1048576: true; the input reads as it did. -/
def parseKeepsUptoRow : OpenClaim := { program := "yteolepmopajamaa", sum := "f376f9d9b2ec809ebb6f28cd3f36626198cca9f9c9cfa4a0bec0e14b211be31b", func := "pendulum/pendulumlaw06.ParseKeeps", spec := "parseKeeps", unfollowed := true, recurses := true, apart := false, narrowed := true }
def ParseKeepsUptoSaid : Prop := parseKeepsUptoRow.holds Try.pinned (OpenSpec.upto parseKeepsSpec)

/-- 'pendulumlaw06.ParseTwice', WHERE WHAT IT READS IS OF BULK AT MOST 1048576: true; the input reads as it did. -/
def parseTwiceUptoRow : OpenClaim := { program := "yteolepmopajamaa", sum := "f376f9d9b2ec809ebb6f28cd3f36626198cca9f9c9cfa4a0bec0e14b211be31b", func := "pendulum/pendulumlaw06.ParseTwice", spec := "parseTwice", unfollowed := true, recurses := true, apart := false, narrowed := true }
def ParseTwiceUptoSaid : Prop := parseTwiceUptoRow.holds Try.pinned (OpenSpec.upto parseTwiceSpec)

/-- 'pendulumlaw06.ParseCuts', WHERE WHAT IT READS IS OF BULK AT MOST 1048576: true; the input reads as it did. -/
def parseCutsUptoRow : OpenClaim := { program := "yteolepmopajamaa", sum := "f376f9d9b2ec809ebb6f28cd3f36626198cca9f9c9cfa4a0bec0e14b211be31b", func := "pendulum/pendulumlaw06.ParseCuts", spec := "parseCuts", unfollowed := true, recurses := true, apart := false, narrowed := true }
def ParseCutsUptoSaid : Prop := parseCutsUptoRow.holds Try.pinned (OpenSpec.upto parseCutsSpec)

end Rows
end Go.Proofs.Yteolepmopajamaa
