/-
  No cell of these rows narrows 'for every input' (looked for: loops, veiled, ifaces, maps, wideKeys, modest, calm, conditions, laid).
  DERIVED. THE GIVEN ROWS OF THIS SEAT. 4 by the template 'for every input the law returns true; each argument reads behind the call as it read before'; 0 by the template 'total and deterministic' (their statements: YthdjflmligoelaaTotals.lean).
  GIVEN WITH THE SEED: the statements are not yours to turn. If you find one false, say at which input.
  Laid BY PROGRAM, IN A SANDBOX (cutbox-rows.mjs): the forced cells as the released guide's own fill.sh prints them over the translation d0ff3373be232b1c… (all of the seat's roots in one cut). By AI agents, Wed Nov 11 2026. No macro, syntax, notation, axiom, sorry.
-/
import Derived.Test.YthdjflmligoelaaChecked
import GoSem.Claim
import GoSem.ClaimJoined
import GoSem.ClaimMapViews
import Derived.JoinedTies
import Derived.KernelRfl
namespace Go.Proofs.Ythdjflmligoelaa
/- THE CELL 'sum', in the pinned program and in every row, IS THE sha256 OF THE DUMP (.gsa) THAT YthdjflmligoelaaProg.lean LOADS. Nothing in Lean hashes anything: it is a label: what it is worth is what the hold of that sum in a sandbox is worth. -/
noncomputable def Try.pinned : Pinned := { name := "ythdjflmligoelaa", sum := "d0ff3373be232b1c9742e7ef5d9b14393165a89fe881f9dacbeddf0a55eaad8f", checked := Try.checked }
namespace Rows
def none {H : Type} : Left H := { results := [], args := [] }

/-- 'pendulumlaw13.SkipModel': WHATEVER THE INPUT: true; the input reads as it did. -/
def skipModelSpec : ChangeSpec := { name := "skipModel", fn := fun _ => fun
  | [d1, d2, d3, d4] => { results := [.lit (.bool true)], args := [d1, d2, d3, d4] }
  | _ => none }
def skipModelRow : OpenClaim := { program := "ythdjflmligoelaa", sum := "d0ff3373be232b1c9742e7ef5d9b14393165a89fe881f9dacbeddf0a55eaad8f", func := "pendulum/pendulumlaw13.SkipModel", spec := "skipModel", apart := false }
def SkipModelSaid : Prop := skipModelRow.holds Try.pinned (OpenSpec.ofChange skipModelSpec)

/-- ITS FALSE NEIGHBOUR: 'it returns false'. Refute it at one input. -/
def skipModelWrong : ChangeSpec := { name := "skipModel", fn := fun _ => fun
  | [d1, d2, d3, d4] => { results := [.lit (.bool false)], args := [d1, d2, d3, d4] }
  | _ => none }
def SkipModelWrongFalsely : Prop := skipModelRow.holds Try.pinned (OpenSpec.ofChange skipModelWrong)

/-- 'pendulumlaw13.SkipFirm': WHATEVER THE INPUT: true; the input reads as it did. -/
def skipFirmSpec : ChangeSpec := { name := "skipFirm", fn := fun _ => fun
  | [d1, d2, d3, d4] => { results := [.lit (.bool true)], args := [d1, d2, d3, d4] }
  | _ => none }
def skipFirmRow : OpenClaim := { program := "ythdjflmligoelaa", sum := "d0ff3373be232b1c9742e7ef5d9b14393165a89fe881f9dacbeddf0a55eaad8f", func := "pendulum/pendulumlaw13.SkipFirm", spec := "skipFirm", apart := false }
def SkipFirmSaid : Prop := skipFirmRow.holds Try.pinned (OpenSpec.ofChange skipFirmSpec)

/-- ITS FALSE NEIGHBOUR: 'it returns false'. Refute it at one input. -/
def skipFirmWrong : ChangeSpec := { name := "skipFirm", fn := fun _ => fun
  | [d1, d2, d3, d4] => { results := [.lit (.bool false)], args := [d1, d2, d3, d4] }
  | _ => none }
def SkipFirmWrongFalsely : Prop := skipFirmRow.holds Try.pinned (OpenSpec.ofChange skipFirmWrong)

/-- 'pendulumlaw13.SkipWorst': WHATEVER THE INPUT: true; the input reads as it did. -/
def skipWorstSpec : ChangeSpec := { name := "skipWorst", fn := fun _ => fun
  | [d1, d2, d3] => { results := [.lit (.bool true)], args := [d1, d2, d3] }
  | _ => none }
def skipWorstRow : OpenClaim := { program := "ythdjflmligoelaa", sum := "d0ff3373be232b1c9742e7ef5d9b14393165a89fe881f9dacbeddf0a55eaad8f", func := "pendulum/pendulumlaw13.SkipWorst", spec := "skipWorst", apart := false }
def SkipWorstSaid : Prop := skipWorstRow.holds Try.pinned (OpenSpec.ofChange skipWorstSpec)

/-- ITS FALSE NEIGHBOUR: 'it returns false'. Refute it at one input. -/
def skipWorstWrong : ChangeSpec := { name := "skipWorst", fn := fun _ => fun
  | [d1, d2, d3] => { results := [.lit (.bool false)], args := [d1, d2, d3] }
  | _ => none }
def SkipWorstWrongFalsely : Prop := skipWorstRow.holds Try.pinned (OpenSpec.ofChange skipWorstWrong)

/-- 'pendulumlaw13.SkipMisses': WHATEVER THE INPUT: true; the input reads as it did. -/
def skipMissesSpec : ChangeSpec := { name := "skipMisses", fn := fun _ => fun
  | [d1, d2, d3] => { results := [.lit (.bool true)], args := [d1, d2, d3] }
  | _ => none }
def skipMissesRow : OpenClaim := { program := "ythdjflmligoelaa", sum := "d0ff3373be232b1c9742e7ef5d9b14393165a89fe881f9dacbeddf0a55eaad8f", func := "pendulum/pendulumlaw13.SkipMisses", spec := "skipMisses", apart := false }
def SkipMissesSaid : Prop := skipMissesRow.holds Try.pinned (OpenSpec.ofChange skipMissesSpec)

/-- ITS FALSE NEIGHBOUR: 'it returns false'. Refute it at one input. -/
def skipMissesWrong : ChangeSpec := { name := "skipMisses", fn := fun _ => fun
  | [d1, d2, d3] => { results := [.lit (.bool false)], args := [d1, d2, d3] }
  | _ => none }
def SkipMissesWrongFalsely : Prop := skipMissesRow.holds Try.pinned (OpenSpec.ofChange skipMissesWrong)

/- THE SECOND FORM. 'bulk': how many values and letters a reading holds, each counted each time it is reached (what is shared counts as often as it is met; a slice's spare places count too). A statement '..UptoSaid' is the law's where the arguments, and the package variables that the reading takes, are together of bulk at most 1048576: NARROWER than '..Said'. Prove '..Said' where nothing that the law and all that it calls make is longer than what came in: it says more and counts as full. Else prove '..UptoSaid'. A law counts once. -/
mutual
def uptoBulk {H : Type} : DataW H → Nat
  | .lit (.string bytes) => bytes.length + 1
  | .lit _ => 1
  | .nil => 1
  | .ptr d => uptoBulk d + 1
  | .slice elems spare => uptoBulkAll elems + uptoBulkAll spare + 1
  | .agg parts => uptoBulkAll parts + 1
  | .iface _ d => uptoBulk d + 1
  | .map entries => uptoBulkEntries entries + 1
  | .held _ => 1
def uptoBulkAll {H : Type} : List (DataW H) → Nat
  | [] => 0
  | d :: r => uptoBulk d + uptoBulkAll r
def uptoBulkEntries {H : Type} : List (Lit × DataW H) → Nat
  | [] => 0
  | x :: r => uptoBulkEntry x + uptoBulkEntries r
def uptoBulkEntry {H : Type} : Lit × DataW H → Nat
  | (.string bytes, d) => bytes.length + uptoBulk d + 1
  | (_, d) => uptoBulk d + 1
 end
def uptoSmall : (H : Type) → List (DataW H) → Bool := fun _ ds => decide (uptoBulkAll ds ≤ 1048576)
def OpenSpec.upto (s : _root_.Go.ChangeSpec) : _root_.Go.OpenSpec := { _root_.Go.OpenSpec.ofChange s with cond := some uptoSmall }

/-- 'pendulumlaw13.SkipModel', WHERE WHAT IT READS IS OF BULK AT MOST 1048576: true; the input reads as it did. -/
def skipModelUptoRow : OpenClaim := { program := "ythdjflmligoelaa", sum := "d0ff3373be232b1c9742e7ef5d9b14393165a89fe881f9dacbeddf0a55eaad8f", func := "pendulum/pendulumlaw13.SkipModel", spec := "skipModel", apart := false, narrowed := true }
def SkipModelUptoSaid : Prop := skipModelUptoRow.holds Try.pinned (OpenSpec.upto skipModelSpec)

/-- 'pendulumlaw13.SkipFirm', WHERE WHAT IT READS IS OF BULK AT MOST 1048576: true; the input reads as it did. -/
def skipFirmUptoRow : OpenClaim := { program := "ythdjflmligoelaa", sum := "d0ff3373be232b1c9742e7ef5d9b14393165a89fe881f9dacbeddf0a55eaad8f", func := "pendulum/pendulumlaw13.SkipFirm", spec := "skipFirm", apart := false, narrowed := true }
def SkipFirmUptoSaid : Prop := skipFirmUptoRow.holds Try.pinned (OpenSpec.upto skipFirmSpec)

/-- 'pendulumlaw13.SkipWorst', WHERE WHAT IT READS IS OF BULK AT MOST 1048576: true; the input reads as it did. -/
def skipWorstUptoRow : OpenClaim := { program := "ythdjflmligoelaa", sum := "d0ff3373be232b1c9742e7ef5d9b14393165a89fe881f9dacbeddf0a55eaad8f", func := "pendulum/pendulumlaw13.SkipWorst", spec := "skipWorst", apart := false, narrowed := true }
def SkipWorstUptoSaid : Prop := skipWorstUptoRow.holds Try.pinned (OpenSpec.upto skipWorstSpec)

/-- 'pendulumlaw13.SkipMisses', WHERE WHAT IT READS IS OF BULK AT MOST 1048576: true; the input reads as it did. -/
def skipMissesUptoRow : OpenClaim := { program := "ythdjflmligoelaa", sum := "d0ff3373be232b1c9742e7ef5d9b14393165a89fe881f9dacbeddf0a55eaad8f", func := "pendulum/pendulumlaw13.SkipMisses", spec := "skipMisses", apart := false, narrowed := true }
def SkipMissesUptoSaid : Prop := skipMissesUptoRow.holds Try.pinned (OpenSpec.upto skipMissesSpec)

end Rows
end Go.Proofs.Ythdjflmligoelaa
