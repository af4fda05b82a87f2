/-
  No cell of these rows narrows 'for every input' (looked for: loops, veiled, ifaces, maps, wideKeys, modest, calm, conditions, laid).
  DERIVED. THE GIVEN ROWS OF THIS SEAT. 6 by the template 'for every input the law returns true; each argument reads behind the call as it read before'; 0 by the template 'total and deterministic' (their statements: YtongajonecgdpabTotals.lean).
  GIVEN WITH THE SEED: the statements are not yours to turn. If you find one false, say at which input.
  Laid BY PROGRAM, IN A SANDBOX (cutbox-rows.mjs): the forced cells as the released guide's own fill.sh prints them over the translation bff86e2991040026… (all of the seat's roots in one cut). By AI agents, Wed Nov 11 2026. No macro, syntax, notation, axiom, sorry.
-/
import Derived.Test.YtongajonecgdpabChecked
import GoSem.Claim
import GoSem.ClaimJoined
import GoSem.ClaimMapViews
import Derived.JoinedTies
import Derived.KernelRfl
namespace Go.Proofs.Ytongajonecgdpab
/- THE CELL 'sum', in the pinned program and in every row, IS THE sha256 OF THE DUMP (.gsa) THAT YtongajonecgdpabProg.lean LOADS. Nothing in Lean hashes anything: it is a label: what it is worth is what the hold of that sum in a sandbox is worth. -/
noncomputable def Try.pinned : Pinned := { name := "ytongajonecgdpab", sum := "bff86e299104002674a47ed1763ddeb587661cbc8d01dd66b3ddfdf3687930b4", checked := Try.checked }
namespace Rows
def none {H : Type} : Left H := { results := [], args := [] }

/-- 'linchpinlaw.EvalSteps': WHATEVER THE INPUT: true; the input reads as it did. -/
def evalStepsSpec : ChangeSpec := { name := "evalSteps", fn := fun _ => fun
  | [d1, d2, d3] => { results := [.lit (.bool true)], args := [d1, d2, d3] }
  | _ => none }
def evalStepsRow : OpenClaim := { program := "ytongajonecgdpab", sum := "bff86e299104002674a47ed1763ddeb587661cbc8d01dd66b3ddfdf3687930b4", func := "linchpin/linchpinlaw.EvalSteps", spec := "evalSteps", unfollowed := true, recurses := true, apart := false }
def EvalStepsSaid : Prop := evalStepsRow.holds Try.pinned (OpenSpec.ofChange evalStepsSpec)

/-- ITS FALSE NEIGHBOUR: 'it returns false'. Refute it at one input. -/
def evalStepsWrong : ChangeSpec := { name := "evalSteps", fn := fun _ => fun
  | [d1, d2, d3] => { results := [.lit (.bool false)], args := [d1, d2, d3] }
  | _ => none }
def EvalStepsWrongFalsely : Prop := evalStepsRow.holds Try.pinned (OpenSpec.ofChange evalStepsWrong)

/-- 'linchpinlaw.EvalSolves': WHATEVER THE INPUT: true; the input reads as it did. -/
def evalSolvesSpec : ChangeSpec := { name := "evalSolves", fn := fun _ => fun
  | [d1, d2, d3, d4] => { results := [.lit (.bool true)], args := [d1, d2, d3, d4] }
  | _ => none }
def evalSolvesRow : OpenClaim := { program := "ytongajonecgdpab", sum := "bff86e299104002674a47ed1763ddeb587661cbc8d01dd66b3ddfdf3687930b4", func := "linchpin/linchpinlaw.EvalSolves", spec := "evalSolves", unfollowed := true, recurses := true, apart := false }
def EvalSolvesSaid : Prop := evalSolvesRow.holds Try.pinned (OpenSpec.ofChange evalSolvesSpec)

/-- ITS FALSE NEIGHBOUR: 'it returns false'. Refute it at one input. -/
def evalSolvesWrong : ChangeSpec := { name := "evalSolves", fn := fun _ => fun
  | [d1, d2, d3, d4] => { results := [.lit (.bool false)], args := [d1, d2, d3, d4] }
  | _ => none }
def EvalSolvesWrongFalsely : Prop := evalSolvesRow.holds Try.pinned (OpenSpec.ofChange evalSolvesWrong)

/-- 'linchpinlaw.EvalTrue': WHATEVER THE INPUT: true; the input reads as it did. -/
def evalTrueSpec : ChangeSpec := { name := "evalTrue", fn := fun _ => fun
  | [d1, d2, d3, d4] => { results := [.lit (.bool true)], args := [d1, d2, d3, d4] }
  | _ => none }
def evalTrueRow : OpenClaim := { program := "ytongajonecgdpab", sum := "bff86e299104002674a47ed1763ddeb587661cbc8d01dd66b3ddfdf3687930b4", func := "linchpin/linchpinlaw.EvalTrue", spec := "evalTrue", unfollowed := true, recurses := true, apart := false }
def EvalTrueSaid : Prop := evalTrueRow.holds Try.pinned (OpenSpec.ofChange evalTrueSpec)

/-- ITS FALSE NEIGHBOUR: 'it returns false'. Refute it at one input. -/
def evalTrueWrong : ChangeSpec := { name := "evalTrue", fn := fun _ => fun
  | [d1, d2, d3, d4] => { results := [.lit (.bool false)], args := [d1, d2, d3, d4] }
  | _ => none }
def EvalTrueWrongFalsely : Prop := evalTrueRow.holds Try.pinned (OpenSpec.ofChange evalTrueWrong)

/-- 'linchpinlaw.EvalMore': WHATEVER THE INPUT: true; the input reads as it did. -/
def evalMoreSpec : ChangeSpec := { name := "evalMore", fn := fun _ => fun
  | [d1, d2, d3, d4, d5] => { results := [.lit (.bool true)], args := [d1, d2, d3, d4, d5] }
  | _ => none }
def evalMoreRow : OpenClaim := { program := "ytongajonecgdpab", sum := "bff86e299104002674a47ed1763ddeb587661cbc8d01dd66b3ddfdf3687930b4", func := "linchpin/linchpinlaw.EvalMore", spec := "evalMore", unfollowed := true, recurses := true, apart := false }
def EvalMoreSaid : Prop := evalMoreRow.holds Try.pinned (OpenSpec.ofChange evalMoreSpec)

/-- ITS FALSE NEIGHBOUR: 'it returns false'. Refute it at one input. -/
def evalMoreWrong : ChangeSpec := { name := "evalMore", fn := fun _ => fun
  | [d1, d2, d3, d4, d5] => { results := [.lit (.bool false)], args := [d1, d2, d3, d4, d5] }
  | _ => none }
def EvalMoreWrongFalsely : Prop := evalMoreRow.holds Try.pinned (OpenSpec.ofChange evalMoreWrong)

/-- 'linchpinlaw.TickDoes': WHATEVER THE INPUT: true; the input reads as it did. -/
def tickDoesSpec : ChangeSpec := { name := "tickDoes", fn := fun _ => fun
  | [d1, d2, d3] => { results := [.lit (.bool true)], args := [d1, d2, d3] }
  | _ => none }
def tickDoesRow : OpenClaim := { program := "ytongajonecgdpab", sum := "bff86e299104002674a47ed1763ddeb587661cbc8d01dd66b3ddfdf3687930b4", func := "linchpin/linchpinlaw.TickDoes", spec := "tickDoes", unfollowed := true, recurses := true, apart := false }
def TickDoesSaid : Prop := tickDoesRow.holds Try.pinned (OpenSpec.ofChange tickDoesSpec)

/-- ITS FALSE NEIGHBOUR: 'it returns false'. Refute it at one input. -/
def tickDoesWrong : ChangeSpec := { name := "tickDoes", fn := fun _ => fun
  | [d1, d2, d3] => { results := [.lit (.bool false)], args := [d1, d2, d3] }
  | _ => none }
def TickDoesWrongFalsely : Prop := tickDoesRow.holds Try.pinned (OpenSpec.ofChange tickDoesWrong)

/-- 'linchpinlaw.TickRuns': WHATEVER THE INPUT: true; the input reads as it did. -/
def tickRunsSpec : ChangeSpec := { name := "tickRuns", fn := fun _ => fun
  | [d1, d2] => { results := [.lit (.bool true)], args := [d1, d2] }
  | _ => none }
def tickRunsRow : OpenClaim := { program := "ytongajonecgdpab", sum := "bff86e299104002674a47ed1763ddeb587661cbc8d01dd66b3ddfdf3687930b4", func := "linchpin/linchpinlaw.TickRuns", spec := "tickRuns", unfollowed := true, recurses := true, apart := false }
def TickRunsSaid : Prop := tickRunsRow.holds Try.pinned (OpenSpec.ofChange tickRunsSpec)

/-- ITS FALSE NEIGHBOUR: 'it returns false'. Refute it at one input. -/
def tickRunsWrong : ChangeSpec := { name := "tickRuns", fn := fun _ => fun
  | [d1, d2] => { results := [.lit (.bool false)], args := [d1, d2] }
  | _ => none }
def TickRunsWrongFalsely : Prop := tickRunsRow.holds Try.pinned (OpenSpec.ofChange tickRunsWrong)

/- THE SECOND FORM. 'bulk': how many values and letters a reading holds, each counted each time it is reached (what is shared counts as often as it is met; a slice's spare places count too). A statement '..UptoSaid' is the law's where the arguments, and the package variables that the reading takes, are together of bulk at most 1048576: NARROWER than '..Said'. Prove '..Said' where nothing that the law and all that it calls make is longer than what came in: it says more and counts as full. Else prove '..UptoSaid'. A law counts once. -/
mutual
def uptoBulk {H : Type} : DataW H → Nat
  | .lit (.string bytes) => bytes.length + 1
  | .lit _ => 1
  | .nil => 1
  | .ptr d => uptoBulk d + 1
  | .slice elems spare => uptoBulkAll elems + uptoBulkAll spare + 1
  | .agg parts => uptoBulkAll parts + 1
  | .iface _ d => uptoBulk d + 1
  | .map entries => uptoBulkEntries entries + 1
  | .held _ => 1
def uptoBulkAll {H : Type} : List (DataW H) → Nat
  | [] => 0
  | d :: r => uptoBulk d + uptoBulkAll r
def uptoBulkEntries {H : Type} : List (Lit × DataW H) → Nat
  | [] => 0
  | x :: r => uptoBulkEntry x + uptoBulkEntries r
def uptoBulkEntry {H : Type} : Lit × DataW H → Nat
  | (.string bytes, d) => bytes.length + uptoBulk d + 1
  | (_, d) => uptoBulk d + 1
 end
def uptoSmall : (H : Type) → List (DataW H) → Bool := fun _ ds => decide (uptoBulkAll ds ≤ 1048576)
def OpenSpec.upto (s : _root_.Go.ChangeSpec) : _root_.Go.OpenSpec := { _root_.Go.OpenSpec.ofChange s with cond := some uptoSmall }

/-- 'linchpinlaw.EvalSteps', WHERE WHAT IT READS IS OF BULK AT MOST 1048576: true; the input reads as it did. -/
def evalStepsUptoRow : OpenClaim := { program := "ytongajonecgdpab", sum := "bff86e299104002674a47ed1763ddeb587661cbc8d01dd66b3ddfdf3687930b4", func := "linchpin/linchpinlaw.EvalSteps", spec := "evalSteps", unfollowed := true, recurses := true, apart := false, narrowed := true }
def EvalStepsUptoSaid : Prop := evalStepsUptoRow.holds Try.pinned (OpenSpec.upto evalStepsSpec)

/-- 'linchpinlaw.EvalSolves', WHERE WHAT IT READS IS OF BULK AT MOST 1048576: true; the input reads as it did. -/
def evalSolvesUptoRow : OpenClaim := { program := "ytongajonecgdpab", sum := "bff86e299104002674a47ed1763ddeb587661cbc8d01dd66b3ddfdf3687930b4", func := "linchpin/linchpinlaw.EvalSolves", spec := "evalSolves", unfollowed := true, recurses := true, apart := false, narrowed := true }
def EvalSolvesUptoSaid : Prop := evalSolvesUptoRow.holds Try.pinned (OpenSpec.upto evalSolvesSpec)

/-- 'linchpinlaw.EvalTrue', WHERE WHAT IT READS IS OF BULK AT MOST 1048576: true; the input reads as it did. -/
def evalTrueUptoRow : OpenClaim := { program := "ytongajonecgdpab", sum := "bff86e299104002674a47ed1763ddeb587661cbc8d01dd66b3ddfdf3687930b4", func := "linchpin/linchpinlaw.EvalTrue", spec := "evalTrue", unfollowed := true, recurses := true, apart := false, narrowed := true }
def EvalTrueUptoSaid : Prop := evalTrueUptoRow.holds Try.pinned (OpenSpec.upto evalTrueSpec)

/-- 'linchpinlaw.EvalMore', WHERE WHAT IT READS IS OF BULK AT MOST 1048576: true; the input reads as it did. -/
def evalMoreUptoRow : OpenClaim := { program := "ytongajonecgdpab", sum := "bff86e299104002674a47ed1763ddeb587661cbc8d01dd66b3ddfdf3687930b4", func := "linchpin/linchpinlaw.EvalMore", spec := "evalMore", unfollowed := true, recurses := true, apart := false, narrowed := true }
def EvalMoreUptoSaid : Prop := evalMoreUptoRow.holds Try.pinned (OpenSpec.upto evalMoreSpec)

/-- 'linchpinlaw.TickDoes', WHERE WHAT IT READS IS OF BULK AT MOST 1048576: true; the input reads as it did. -/
def tickDoesUptoRow : OpenClaim := { program := "ytongajonecgdpab", sum := "bff86e299104002674a47ed1763ddeb587661cbc8d01dd66b3ddfdf3687930b4", func := "linchpin/linchpinlaw.TickDoes", spec := "tickDoes", unfollowed := true, recurses := true, apart := false, narrowed := true }
def TickDoesUptoSaid : Prop := tickDoesUptoRow.holds Try.pinned (OpenSpec.upto tickDoesSpec)

/-- 'linchpinlaw.TickRuns', WHERE WHAT IT READS IS OF BULK AT MOST 1048576: true; the input reads as it did. -/
def tickRunsUptoRow : OpenClaim := { program := "ytongajonecgdpab", sum := "bff86e299104002674a47ed1763ddeb587661cbc8d01dd66b3ddfdf3687930b4", func := "linchpin/linchpinlaw.TickRuns", spec := "tickRuns", unfollowed := true, recurses := true, apart := false, narrowed := true }
def TickRunsUptoSaid : Prop := tickRunsUptoRow.holds Try.pinned (OpenSpec.upto tickRunsSpec)

end Rows
end Go.Proofs.Ytongajonecgdpab
