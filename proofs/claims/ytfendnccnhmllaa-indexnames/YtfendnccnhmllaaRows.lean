/-
  No cell of these rows narrows 'for every input' (looked for: loops, veiled, ifaces, maps, wideKeys, modest, calm, conditions, laid).
  DERIVED. THE GIVEN ROWS OF THIS SEAT. 5 by the template 'for every input the law returns true; each argument reads behind the call as it read before'; 0 by the template 'total and deterministic' (their statements: YtfendnccnhmllaaTotals.lean).
  GIVEN WITH THE SEED: the statements are not yours to turn. If you find one false, say at which input.
  Laid BY PROGRAM, IN A SANDBOX (cutbox-rows.mjs): the forced cells as the released guide's own fill.sh prints them over the translation d8e1b44d97f42dd4… (all of the seat's roots in one cut). By AI agents, Wed Nov 11 2026. No macro, syntax, notation, axiom, sorry.
-/
import Derived.Test.YtfendnccnhmllaaChecked
import GoSem.Claim
import GoSem.ClaimJoined
import GoSem.ClaimMapViews
import Derived.JoinedTies
import Derived.KernelRfl
namespace Go.Proofs.Ytfendnccnhmllaa
/- THE CELL 'sum', in the pinned program and in every row, IS THE sha256 OF THE DUMP (.gsa) THAT YtfendnccnhmllaaProg.lean LOADS. Nothing in Lean hashes anything: it is a label: what it is worth is what the hold of that sum in a sandbox is worth. -/
noncomputable def Try.pinned : Pinned := { name := "ytfendnccnhmllaa", sum := "d8e1b44d97f42dd4f020c1c33956d8a412ddb14856040e29a19944eb84ede33e", checked := Try.checked }
namespace Rows
def none {H : Type} : Left H := { results := [], args := [] }

/-- 'pendulumlaw03.IndexModel': WHATEVER THE INPUT: true; the input reads as it did. -/
def indexModelSpec : ChangeSpec := { name := "indexModel", fn := fun _ => fun
  | [d1, d2, d3] => { results := [.lit (.bool true)], args := [d1, d2, d3] }
  | _ => none }
def indexModelRow : OpenClaim := { program := "ytfendnccnhmllaa", sum := "d8e1b44d97f42dd4f020c1c33956d8a412ddb14856040e29a19944eb84ede33e", func := "pendulum/pendulumlaw03.IndexModel", spec := "indexModel", inPlace := ["slices.overlaps[pendulum/index.row]"], apart := false }
def IndexModelSaid : Prop := indexModelRow.holds Try.pinned (OpenSpec.ofChange indexModelSpec)

/-- ITS FALSE NEIGHBOUR: 'it returns false'. Refute it at one input. -/
def indexModelWrong : ChangeSpec := { name := "indexModel", fn := fun _ => fun
  | [d1, d2, d3] => { results := [.lit (.bool false)], args := [d1, d2, d3] }
  | _ => none }
def IndexModelWrongFalsely : Prop := indexModelRow.holds Try.pinned (OpenSpec.ofChange indexModelWrong)

/-- 'pendulumlaw03.IndexNames': WHATEVER THE INPUT: true; the input reads as it did. -/
def indexNamesSpec : ChangeSpec := { name := "indexNames", fn := fun _ => fun
  | [d] => { results := [.lit (.bool true)], args := [d] }
  | _ => none }
def indexNamesRow : OpenClaim := { program := "ytfendnccnhmllaa", sum := "d8e1b44d97f42dd4f020c1c33956d8a412ddb14856040e29a19944eb84ede33e", func := "pendulum/pendulumlaw03.IndexNames", spec := "indexNames", inPlace := ["slices.overlaps[pendulum/index.row]"], apart := false }
def IndexNamesSaid : Prop := indexNamesRow.holds Try.pinned (OpenSpec.ofChange indexNamesSpec)

/-- ITS FALSE NEIGHBOUR: 'it returns false'. Refute it at one input. -/
def indexNamesWrong : ChangeSpec := { name := "indexNames", fn := fun _ => fun
  | [d] => { results := [.lit (.bool false)], args := [d] }
  | _ => none }
def IndexNamesWrongFalsely : Prop := indexNamesRow.holds Try.pinned (OpenSpec.ofChange indexNamesWrong)

/-- 'pendulumlaw03.IndexKeeps': WHATEVER THE INPUT: true; the input reads as it did. -/
def indexKeepsSpec : ChangeSpec := { name := "indexKeeps", fn := fun _ => fun
  | [d] => { results := [.lit (.bool true)], args := [d] }
  | _ => none }
def indexKeepsRow : OpenClaim := { program := "ytfendnccnhmllaa", sum := "d8e1b44d97f42dd4f020c1c33956d8a412ddb14856040e29a19944eb84ede33e", func := "pendulum/pendulumlaw03.IndexKeeps", spec := "indexKeeps", inPlace := ["slices.overlaps[pendulum/index.row]"], apart := false }
def IndexKeepsSaid : Prop := indexKeepsRow.holds Try.pinned (OpenSpec.ofChange indexKeepsSpec)

/-- ITS FALSE NEIGHBOUR: 'it returns false'. Refute it at one input. -/
def indexKeepsWrong : ChangeSpec := { name := "indexKeeps", fn := fun _ => fun
  | [d] => { results := [.lit (.bool false)], args := [d] }
  | _ => none }
def IndexKeepsWrongFalsely : Prop := indexKeepsRow.holds Try.pinned (OpenSpec.ofChange indexKeepsWrong)

/-- 'pendulumlaw03.IndexOrders': WHATEVER THE INPUT: true; the input reads as it did. -/
def indexOrdersSpec : ChangeSpec := { name := "indexOrders", fn := fun _ => fun
  | [d1, d2] => { results := [.lit (.bool true)], args := [d1, d2] }
  | _ => none }
def indexOrdersRow : OpenClaim := { program := "ytfendnccnhmllaa", sum := "d8e1b44d97f42dd4f020c1c33956d8a412ddb14856040e29a19944eb84ede33e", func := "pendulum/pendulumlaw03.IndexOrders", spec := "indexOrders", inPlace := ["slices.overlaps[pendulum/index.row]"], apart := false }
def IndexOrdersSaid : Prop := indexOrdersRow.holds Try.pinned (OpenSpec.ofChange indexOrdersSpec)

/-- ITS FALSE NEIGHBOUR: 'it returns false'. Refute it at one input. -/
def indexOrdersWrong : ChangeSpec := { name := "indexOrders", fn := fun _ => fun
  | [d1, d2] => { results := [.lit (.bool false)], args := [d1, d2] }
  | _ => none }
def IndexOrdersWrongFalsely : Prop := indexOrdersRow.holds Try.pinned (OpenSpec.ofChange indexOrdersWrong)

/-- 'pendulumlaw03.IndexRoom': WHATEVER THE INPUT: true; the input reads as it did. -/
def indexRoomSpec : ChangeSpec := { name := "indexRoom", fn := fun _ => fun
  | [d1, d2] => { results := [.lit (.bool true)], args := [d1, d2] }
  | _ => none }
def indexRoomRow : OpenClaim := { program := "ytfendnccnhmllaa", sum := "d8e1b44d97f42dd4f020c1c33956d8a412ddb14856040e29a19944eb84ede33e", func := "pendulum/pendulumlaw03.IndexRoom", spec := "indexRoom", inPlace := ["slices.overlaps[pendulum/index.row]"], apart := false }
def IndexRoomSaid : Prop := indexRoomRow.holds Try.pinned (OpenSpec.ofChange indexRoomSpec)

/-- ITS FALSE NEIGHBOUR: 'it returns false'. Refute it at one input. -/
def indexRoomWrong : ChangeSpec := { name := "indexRoom", fn := fun _ => fun
  | [d1, d2] => { results := [.lit (.bool false)], args := [d1, d2] }
  | _ => none }
def IndexRoomWrongFalsely : Prop := indexRoomRow.holds Try.pinned (OpenSpec.ofChange indexRoomWrong)

/- THE SECOND FORM. 'bulk': how many values and letters a reading holds, each counted each time it is reached (what is shared counts as often as it is met; a slice's spare places count too). A statement '..UptoSaid' is the law's where the arguments, and the package variables that the reading takes, are together of bulk at most 1048576: NARROWER than '..Said'. Prove '..Said' where nothing that the law and all that it calls make is longer than what came in: it says more and counts as full. Else prove '..UptoSaid'. A law counts once. -/
mutual
def uptoBulk {H : Type} : DataW H → Nat
  | .lit (.string bytes) => bytes.length + 1
  | .lit _ => 1
  | .nil => 1
  | .ptr d => uptoBulk d + 1
  | .slice elems spare => uptoBulkAll elems + uptoBulkAll spare + 1
  | .agg parts => uptoBulkAll parts + 1
  | .iface _ d => uptoBulk d + 1
  | .map entries => uptoBulkEntries entries + 1
  | .held _ => 1
def uptoBulkAll {H : Type} : List (DataW H) → Nat
  | [] => 0
  | d :: r => uptoBulk d + uptoBulkAll r
def uptoBulkEntries {H : Type} : List (Lit × DataW H) → Nat
  | [] => 0
  | x :: r => uptoBulkEntry x + uptoBulkEntries r
def uptoBulkEntry {H : Type} : Lit × DataW H → Nat
  | (.string bytes, d) => bytes.length + uptoBulk d + 1
  | (_, d) => uptoBulk d + 1
 end
def uptoSmall : (H : Type) → List (DataW H) → Bool := fun _ ds => decide (uptoBulkAll ds ≤ 1048576)
def OpenSpec.upto (s : _root_.Go.ChangeSpec) : _root_.Go.OpenSpec := { _root_.Go.OpenSpec.ofChange s with cond := some uptoSmall }

/-- 'pendulumlaw03.IndexModel', WHERE WHAT IT READS IS OF BULK AT MOST 1048576: true; the input reads as it did. -/
def indexModelUptoRow : OpenClaim := { program := "ytfendnccnhmllaa", sum := "d8e1b44d97f42dd4f020c1c33956d8a412ddb14856040e29a19944eb84ede33e", func := "pendulum/pendulumlaw03.IndexModel", spec := "indexModel", inPlace := ["slices.overlaps[pendulum/index.row]"], apart := false, narrowed := true }
def IndexModelUptoSaid : Prop := indexModelUptoRow.holds Try.pinned (OpenSpec.upto indexModelSpec)

/-- 'pendulumlaw03.IndexNames', WHERE WHAT IT READS IS OF BULK AT MOST 1048576: true; the input reads as it did. -/
def indexNamesUptoRow : OpenClaim := { program := "ytfendnccnhmllaa", sum := "d8e1b44d97f42dd4f020c1c33956d8a412ddb14856040e29a19944eb84ede33e", func := "pendulum/pendulumlaw03.IndexNames", spec := "indexNames", inPlace := ["slices.overlaps[pendulum/index.row]"], apart := false, narrowed := true }
def IndexNamesUptoSaid : Prop := indexNamesUptoRow.holds Try.pinned (OpenSpec.upto indexNamesSpec)

/-- 'pendulumlaw03.IndexKeeps', WHERE WHAT IT READS IS OF BULK AT MOST 1048576: true; the input reads as it did. -/
def indexKeepsUptoRow : OpenClaim := { program := "ytfendnccnhmllaa", sum := "d8e1b44d97f42dd4f020c1c33956d8a412ddb14856040e29a19944eb84ede33e", func := "pendulum/pendulumlaw03.IndexKeeps", spec := "indexKeeps", inPlace := ["slices.overlaps[pendulum/index.row]"], apart := false, narrowed := true }
def IndexKeepsUptoSaid : Prop := indexKeepsUptoRow.holds Try.pinned (OpenSpec.upto indexKeepsSpec)

/-- 'pendulumlaw03.IndexOrders', WHERE WHAT IT READS IS OF BULK AT MOST 1048576: true; the input reads as it did. -/
def indexOrdersUptoRow : OpenClaim := { program := "ytfendnccnhmllaa", sum := "d8e1b44d97f42dd4f020c1c33956d8a412ddb14856040e29a19944eb84ede33e", func := "pendulum/pendulumlaw03.IndexOrders", spec := "indexOrders", inPlace := ["slices.overlaps[pendulum/index.row]"], apart := false, narrowed := true }
def IndexOrdersUptoSaid : Prop := indexOrdersUptoRow.holds Try.pinned (OpenSpec.upto indexOrdersSpec)

/-- 'pendulumlaw03.IndexRoom', WHERE WHAT IT READS IS OF BULK AT MOST 1048576: true; the input reads as it did. -/
def indexRoomUptoRow : OpenClaim := { program := "ytfendnccnhmllaa", sum := "d8e1b44d97f42dd4f020c1c33956d8a412ddb14856040e29a19944eb84ede33e", func := "pendulum/pendulumlaw03.IndexRoom", spec := "indexRoom", inPlace := ["slices.overlaps[pendulum/index.row]"], apart := false, narrowed := true }
def IndexRoomUptoSaid : Prop := indexRoomUptoRow.holds Try.pinned (OpenSpec.upto indexRoomSpec)

end Rows
end Go.Proofs.Ytfendnccnhmllaa
