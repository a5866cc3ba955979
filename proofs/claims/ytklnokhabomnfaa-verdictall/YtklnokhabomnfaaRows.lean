/-
  No cell of these rows narrows 'for every input' (looked for: loops, veiled, ifaces, maps, wideKeys, modest, calm, conditions, laid).
  DERIVED. THE GIVEN ROWS OF THIS SEAT. 6 by the template 'for every input the law returns true; each argument reads behind the call as it read before'; 0 by the template 'total and deterministic' (their statements: YtklnokhabomnfaaTotals.lean).
  GIVEN WITH THE SEED: the statements are not yours to turn. If you find one false, say at which input.
  Laid BY PROGRAM, IN A SANDBOX (cutbox-rows.mjs): the forced cells as the released guide's own fill.sh prints them over the translation 7563b603aea4fb89… (all of the seat's roots in one cut). By AI agents, Wed Nov 11 2026. No macro, syntax, notation, axiom, sorry.
-/
import Derived.Test.YtklnokhabomnfaaChecked
import GoSem.Claim
import GoSem.ClaimJoined
import GoSem.ClaimMapViews
import Derived.JoinedTies
import Derived.KernelRfl
namespace Go.Proofs.Ytklnokhabomnfaa
/- THE CELL 'sum', in the pinned program and in every row, IS THE sha256 OF THE DUMP (.gsa) THAT YtklnokhabomnfaaProg.lean LOADS. Nothing in Lean hashes anything: it is a label: what it is worth is what the hold of that sum in a sandbox is worth. -/
noncomputable def Try.pinned : Pinned := { name := "ytklnokhabomnfaa", sum := "7563b603aea4fb897f65d41d9f6220c7bcbdf69f0dcbe87ba47119a07555a60e", checked := Try.checked }
namespace Rows
def none {H : Type} : Left H := { results := [], args := [] }

/-- 'pendulumlaw20.VerdictJudges': WHATEVER THE INPUT: true; the input reads as it did. -/
def verdictJudgesSpec : ChangeSpec := { name := "verdictJudges", fn := fun _ => fun
  | [d1, d2] => { results := [.lit (.bool true)], args := [d1, d2] }
  | _ => none }
def verdictJudgesRow : OpenClaim := { program := "ytklnokhabomnfaa", sum := "7563b603aea4fb897f65d41d9f6220c7bcbdf69f0dcbe87ba47119a07555a60e", func := "pendulum/pendulumlaw20.VerdictJudges", spec := "verdictJudges", unfollowed := true, recurses := true, apart := false }
def VerdictJudgesSaid : Prop := verdictJudgesRow.holds Try.pinned (OpenSpec.ofChange verdictJudgesSpec)

/-- ITS FALSE NEIGHBOUR: 'it returns false'. Refute it at one input. -/
def verdictJudgesWrong : ChangeSpec := { name := "verdictJudges", fn := fun _ => fun
  | [d1, d2] => { results := [.lit (.bool false)], args := [d1, d2] }
  | _ => none }
def VerdictJudgesWrongFalsely : Prop := verdictJudgesRow.holds Try.pinned (OpenSpec.ofChange verdictJudgesWrong)

/-- 'pendulumlaw20.VerdictAll': WHATEVER THE INPUT: true; the input reads as it did. -/
def verdictAllSpec : ChangeSpec := { name := "verdictAll", fn := fun _ => fun
  | [d1, d2, d3] => { results := [.lit (.bool true)], args := [d1, d2, d3] }
  | _ => none }
def verdictAllRow : OpenClaim := { program := "ytklnokhabomnfaa", sum := "7563b603aea4fb897f65d41d9f6220c7bcbdf69f0dcbe87ba47119a07555a60e", func := "pendulum/pendulumlaw20.VerdictAll", spec := "verdictAll", unfollowed := true, recurses := true, apart := false }
def VerdictAllSaid : Prop := verdictAllRow.holds Try.pinned (OpenSpec.ofChange verdictAllSpec)

/-- ITS FALSE NEIGHBOUR: 'it returns false'. Refute it at one input. -/
def verdictAllWrong : ChangeSpec := { name := "verdictAll", fn := fun _ => fun
  | [d1, d2, d3] => { results := [.lit (.bool false)], args := [d1, d2, d3] }
  | _ => none }
def VerdictAllWrongFalsely : Prop := verdictAllRow.holds Try.pinned (OpenSpec.ofChange verdictAllWrong)

/-- 'pendulumlaw20.VerdictAlike': WHATEVER THE INPUT: true; the input reads as it did. -/
def verdictAlikeSpec : ChangeSpec := { name := "verdictAlike", fn := fun _ => fun
  | [d1, d2] => { results := [.lit (.bool true)], args := [d1, d2] }
  | _ => none }
def verdictAlikeRow : OpenClaim := { program := "ytklnokhabomnfaa", sum := "7563b603aea4fb897f65d41d9f6220c7bcbdf69f0dcbe87ba47119a07555a60e", func := "pendulum/pendulumlaw20.VerdictAlike", spec := "verdictAlike", unfollowed := true, recurses := true, apart := false }
def VerdictAlikeSaid : Prop := verdictAlikeRow.holds Try.pinned (OpenSpec.ofChange verdictAlikeSpec)

/-- ITS FALSE NEIGHBOUR: 'it returns false'. Refute it at one input. -/
def verdictAlikeWrong : ChangeSpec := { name := "verdictAlike", fn := fun _ => fun
  | [d1, d2] => { results := [.lit (.bool false)], args := [d1, d2] }
  | _ => none }
def VerdictAlikeWrongFalsely : Prop := verdictAlikeRow.holds Try.pinned (OpenSpec.ofChange verdictAlikeWrong)

/-- 'pendulumlaw20.VerdictKeeps': WHATEVER THE INPUT: true; the input reads as it did. -/
def verdictKeepsSpec : ChangeSpec := { name := "verdictKeeps", fn := fun _ => fun
  | [d1, d2] => { results := [.lit (.bool true)], args := [d1, d2] }
  | _ => none }
def verdictKeepsRow : OpenClaim := { program := "ytklnokhabomnfaa", sum := "7563b603aea4fb897f65d41d9f6220c7bcbdf69f0dcbe87ba47119a07555a60e", func := "pendulum/pendulumlaw20.VerdictKeeps", spec := "verdictKeeps", unfollowed := true, recurses := true, apart := false }
def VerdictKeepsSaid : Prop := verdictKeepsRow.holds Try.pinned (OpenSpec.ofChange verdictKeepsSpec)

/-- ITS FALSE NEIGHBOUR: 'it returns false'. Refute it at one input. -/
def verdictKeepsWrong : ChangeSpec := { name := "verdictKeeps", fn := fun _ => fun
  | [d1, d2] => { results := [.lit (.bool false)], args := [d1, d2] }
  | _ => none }
def VerdictKeepsWrongFalsely : Prop := verdictKeepsRow.holds Try.pinned (OpenSpec.ofChange verdictKeepsWrong)

/-- 'pendulumlaw20.VerdictOrder': WHATEVER THE INPUT: true; the input reads as it did. -/
def verdictOrderSpec : ChangeSpec := { name := "verdictOrder", fn := fun _ => fun
  | [d1, d2, d3] => { results := [.lit (.bool true)], args := [d1, d2, d3] }
  | _ => none }
def verdictOrderRow : OpenClaim := { program := "ytklnokhabomnfaa", sum := "7563b603aea4fb897f65d41d9f6220c7bcbdf69f0dcbe87ba47119a07555a60e", func := "pendulum/pendulumlaw20.VerdictOrder", spec := "verdictOrder", unfollowed := true, recurses := true, apart := false }
def VerdictOrderSaid : Prop := verdictOrderRow.holds Try.pinned (OpenSpec.ofChange verdictOrderSpec)

/-- ITS FALSE NEIGHBOUR: 'it returns false'. Refute it at one input. -/
def verdictOrderWrong : ChangeSpec := { name := "verdictOrder", fn := fun _ => fun
  | [d1, d2, d3] => { results := [.lit (.bool false)], args := [d1, d2, d3] }
  | _ => none }
def VerdictOrderWrongFalsely : Prop := verdictOrderRow.holds Try.pinned (OpenSpec.ofChange verdictOrderWrong)

/-- 'pendulumlaw20.VerdictFirm': WHATEVER THE INPUT: true; the input reads as it did. -/
def verdictFirmSpec : ChangeSpec := { name := "verdictFirm", fn := fun _ => fun
  | [d1, d2, d3, d4] => { results := [.lit (.bool true)], args := [d1, d2, d3, d4] }
  | _ => none }
def verdictFirmRow : OpenClaim := { program := "ytklnokhabomnfaa", sum := "7563b603aea4fb897f65d41d9f6220c7bcbdf69f0dcbe87ba47119a07555a60e", func := "pendulum/pendulumlaw20.VerdictFirm", spec := "verdictFirm", unfollowed := true, recurses := true, apart := false }
def VerdictFirmSaid : Prop := verdictFirmRow.holds Try.pinned (OpenSpec.ofChange verdictFirmSpec)

/-- ITS FALSE NEIGHBOUR: 'it returns false'. Refute it at one input. -/
def verdictFirmWrong : ChangeSpec := { name := "verdictFirm", fn := fun _ => fun
  | [d1, d2, d3, d4] => { results := [.lit (.bool false)], args := [d1, d2, d3, d4] }
  | _ => none }
def VerdictFirmWrongFalsely : Prop := verdictFirmRow.holds Try.pinned (OpenSpec.ofChange verdictFirmWrong)

/- THE SECOND FORM. 'bulk': how many values and letters a reading holds, each counted each time it is reached (what is shared counts as often as it is met; a slice's spare places count too). A statement '..UptoSaid' is the law's where the arguments, and the package variables that the reading takes, are together of bulk at most 1048576: NARROWER than '..Said'. Prove '..Said' where nothing that the law and all that it calls make is longer than what came in: it says more and counts as full. Else prove '..UptoSaid'. A law counts once. -/
mutual
def uptoBulk {H : Type} : DataW H → Nat
  | .lit (.string bytes) => bytes.length + 1
  | .lit _ => 1
  | .nil => 1
  | .ptr d => uptoBulk d + 1
  | .slice elems spare => uptoBulkAll elems + uptoBulkAll spare + 1
  | .agg parts => uptoBulkAll parts + 1
  | .iface _ d => uptoBulk d + 1
  | .map entries => uptoBulkEntries entries + 1
  | .held _ => 1
def uptoBulkAll {H : Type} : List (DataW H) → Nat
  | [] => 0
  | d :: r => uptoBulk d + uptoBulkAll r
def uptoBulkEntries {H : Type} : List (Lit × DataW H) → Nat
  | [] => 0
  | x :: r => uptoBulkEntry x + uptoBulkEntries r
def uptoBulkEntry {H : Type} : Lit × DataW H → Nat
  | (.string bytes, d) => bytes.length + uptoBulk d + 1
  | (_, d) => uptoBulk d + 1
 end
def uptoSmall : (H : Type) → List (DataW H) → Bool := fun _ ds => decide (uptoBulkAll ds ≤ 1048576)
def OpenSpec.upto (s : _root_.Go.ChangeSpec) : _root_.Go.OpenSpec := { _root_.Go.OpenSpec.ofChange s with cond := some uptoSmall }

/-- 'pendulumlaw20.VerdictJudges', WHERE WHAT IT READS IS OF BULK AT MOST 1048576: true; the input reads as it did. -/
def verdictJudgesUptoRow : OpenClaim := { program := "ytklnokhabomnfaa", sum := "7563b603aea4fb897f65d41d9f6220c7bcbdf69f0dcbe87ba47119a07555a60e", func := "pendulum/pendulumlaw20.VerdictJudges", spec := "verdictJudges", unfollowed := true, recurses := true, apart := false, narrowed := true }
def VerdictJudgesUptoSaid : Prop := verdictJudgesUptoRow.holds Try.pinned (OpenSpec.upto verdictJudgesSpec)

/-- 'pendulumlaw20.VerdictAll', WHERE WHAT IT READS IS OF BULK AT MOST 1048576: true; the input reads as it did. -/
def verdictAllUptoRow : OpenClaim := { program := "ytklnokhabomnfaa", sum := "7563b603aea4fb897f65d41d9f6220c7bcbdf69f0dcbe87ba47119a07555a60e", func := "pendulum/pendulumlaw20.VerdictAll", spec := "verdictAll", unfollowed := true, recurses := true, apart := false, narrowed := true }
def VerdictAllUptoSaid : Prop := verdictAllUptoRow.holds Try.pinned (OpenSpec.upto verdictAllSpec)

/-- 'pendulumlaw20.VerdictAlike', WHERE WHAT IT READS IS OF BULK AT MOST 1048576: true; the input reads as it did. -/
def verdictAlikeUptoRow : OpenClaim := { program := "ytklnokhabomnfaa", sum := "7563b603aea4fb897f65d41d9f6220c7bcbdf69f0dcbe87ba47119a07555a60e", func := "pendulum/pendulumlaw20.VerdictAlike", spec := "verdictAlike", unfollowed := true, recurses := true, apart := false, narrowed := true }
def VerdictAlikeUptoSaid : Prop := verdictAlikeUptoRow.holds Try.pinned (OpenSpec.upto verdictAlikeSpec)

/-- 'pendulumlaw20.VerdictKeeps', WHERE WHAT IT READS IS OF BULK AT MOST 1048576: true; the input reads as it did. -/
def verdictKeepsUptoRow : OpenClaim := { program := "ytklnokhabomnfaa", sum := "7563b603aea4fb897f65d41d9f6220c7bcbdf69f0dcbe87ba47119a07555a60e", func := "pendulum/pendulumlaw20.VerdictKeeps", spec := "verdictKeeps", unfollowed := true, recurses := true, apart := false, narrowed := true }
def VerdictKeepsUptoSaid : Prop := verdictKeepsUptoRow.holds Try.pinned (OpenSpec.upto verdictKeepsSpec)

/-- 'pendulumlaw20.VerdictOrder', WHERE WHAT IT READS IS OF BULK AT MOST 1048576: true; the input reads as it did. -/
def verdictOrderUptoRow : OpenClaim := { program := "ytklnokhabomnfaa", sum := "7563b603aea4fb897f65d41d9f6220c7bcbdf69f0dcbe87ba47119a07555a60e", func := "pendulum/pendulumlaw20.VerdictOrder", spec := "verdictOrder", unfollowed := true, recurses := true, apart := false, narrowed := true }
def VerdictOrderUptoSaid : Prop := verdictOrderUptoRow.holds Try.pinned (OpenSpec.upto verdictOrderSpec)

/-- 'pendulumlaw20.VerdictFirm', WHERE WHAT IT READS IS OF BULK AT MOST 1048576: true; the input reads as it did. -/
def verdictFirmUptoRow : OpenClaim := { program := "ytklnokhabomnfaa", sum := "7563b603aea4fb897f65d41d9f6220c7bcbdf69f0dcbe87ba47119a07555a60e", func := "pendulum/pendulumlaw20.VerdictFirm", spec := "verdictFirm", unfollowed := true, recurses := true, apart := false, narrowed := true }
def VerdictFirmUptoSaid : Prop := verdictFirmUptoRow.holds Try.pinned (OpenSpec.upto verdictFirmSpec)

end Rows
end Go.Proofs.Ytklnokhabomnfaa
