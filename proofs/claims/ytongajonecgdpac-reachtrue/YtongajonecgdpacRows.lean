/-
  No cell of these rows narrows 'for every input' (looked for: loops, veiled, ifaces, maps, wideKeys, modest, calm, conditions, laid).
  DERIVED. THE GIVEN ROWS OF THIS SEAT. 6 by the template 'for every input the law returns true; each argument reads behind the call as it read before'; 0 by the template 'total and deterministic' (their statements: YtongajonecgdpacTotals.lean).
  GIVEN WITH THE SEED: the statements are not yours to turn. If you find one false, say at which input.
  Laid BY PROGRAM, IN A SANDBOX (cutbox-rows.mjs): the forced cells as the released guide's own fill.sh prints them over the translation 228bf067ca6d7e64… (all of the seat's roots in one cut). By AI agents, Wed Nov 11 2026. No macro, syntax, notation, axiom, sorry.
-/
import Derived.Test.YtongajonecgdpacChecked
import GoSem.Claim
import GoSem.ClaimJoined
import GoSem.ClaimMapViews
import Derived.JoinedTies
import Derived.KernelRfl
namespace Go.Proofs.Ytongajonecgdpac
/- THE CELL 'sum', in the pinned program and in every row, IS THE sha256 OF THE DUMP (.gsa) THAT YtongajonecgdpacProg.lean LOADS. Nothing in Lean hashes anything: it is a label: what it is worth is what the hold of that sum in a sandbox is worth. -/
noncomputable def Try.pinned : Pinned := { name := "ytongajonecgdpac", sum := "228bf067ca6d7e64940dff413fb547d0c4f844923383d52b650e2ba3e1bfaa15", checked := Try.checked }
namespace Rows
def none {H : Type} : Left H := { results := [], args := [] }

/-- 'linchpinlaw.TickSplit': WHATEVER THE INPUT: true; the input reads as it did. -/
def tickSplitSpec : ChangeSpec := { name := "tickSplit", fn := fun _ => fun
  | [d1, d2, d3] => { results := [.lit (.bool true)], args := [d1, d2, d3] }
  | _ => none }
def tickSplitRow : OpenClaim := { program := "ytongajonecgdpac", sum := "228bf067ca6d7e64940dff413fb547d0c4f844923383d52b650e2ba3e1bfaa15", func := "linchpin/linchpinlaw.TickSplit", spec := "tickSplit", unfollowed := true, recurses := true, apart := false }
def TickSplitSaid : Prop := tickSplitRow.holds Try.pinned (OpenSpec.ofChange tickSplitSpec)

/-- ITS FALSE NEIGHBOUR: 'it returns false'. Refute it at one input. -/
def tickSplitWrong : ChangeSpec := { name := "tickSplit", fn := fun _ => fun
  | [d1, d2, d3] => { results := [.lit (.bool false)], args := [d1, d2, d3] }
  | _ => none }
def TickSplitWrongFalsely : Prop := tickSplitRow.holds Try.pinned (OpenSpec.ofChange tickSplitWrong)

/-- 'linchpinlaw.ReachStates': WHATEVER THE INPUT: true; the input reads as it did. -/
def reachStatesSpec : ChangeSpec := { name := "reachStates", fn := fun _ => fun
  | [d] => { results := [.lit (.bool true)], args := [d] }
  | _ => none }
def reachStatesRow : OpenClaim := { program := "ytongajonecgdpac", sum := "228bf067ca6d7e64940dff413fb547d0c4f844923383d52b650e2ba3e1bfaa15", func := "linchpin/linchpinlaw.ReachStates", spec := "reachStates", unfollowed := true, recurses := true, apart := false }
def ReachStatesSaid : Prop := reachStatesRow.holds Try.pinned (OpenSpec.ofChange reachStatesSpec)

/-- ITS FALSE NEIGHBOUR: 'it returns false'. Refute it at one input. -/
def reachStatesWrong : ChangeSpec := { name := "reachStates", fn := fun _ => fun
  | [d] => { results := [.lit (.bool false)], args := [d] }
  | _ => none }
def ReachStatesWrongFalsely : Prop := reachStatesRow.holds Try.pinned (OpenSpec.ofChange reachStatesWrong)

/-- 'linchpinlaw.ReachBad': WHATEVER THE INPUT: true; the input reads as it did. -/
def reachBadSpec : ChangeSpec := { name := "reachBad", fn := fun _ => fun
  | [d] => { results := [.lit (.bool true)], args := [d] }
  | _ => none }
def reachBadRow : OpenClaim := { program := "ytongajonecgdpac", sum := "228bf067ca6d7e64940dff413fb547d0c4f844923383d52b650e2ba3e1bfaa15", func := "linchpin/linchpinlaw.ReachBad", spec := "reachBad", unfollowed := true, recurses := true, apart := false }
def ReachBadSaid : Prop := reachBadRow.holds Try.pinned (OpenSpec.ofChange reachBadSpec)

/-- ITS FALSE NEIGHBOUR: 'it returns false'. Refute it at one input. -/
def reachBadWrong : ChangeSpec := { name := "reachBad", fn := fun _ => fun
  | [d] => { results := [.lit (.bool false)], args := [d] }
  | _ => none }
def ReachBadWrongFalsely : Prop := reachBadRow.holds Try.pinned (OpenSpec.ofChange reachBadWrong)

/-- 'linchpinlaw.ReachTrue': WHATEVER THE INPUT: true; the input reads as it did. -/
def reachTrueSpec : ChangeSpec := { name := "reachTrue", fn := fun _ => fun
  | [d1, d2, d3, d4] => { results := [.lit (.bool true)], args := [d1, d2, d3, d4] }
  | _ => none }
def reachTrueRow : OpenClaim := { program := "ytongajonecgdpac", sum := "228bf067ca6d7e64940dff413fb547d0c4f844923383d52b650e2ba3e1bfaa15", func := "linchpin/linchpinlaw.ReachTrue", spec := "reachTrue", unfollowed := true, recurses := true, apart := false }
def ReachTrueSaid : Prop := reachTrueRow.holds Try.pinned (OpenSpec.ofChange reachTrueSpec)

/-- ITS FALSE NEIGHBOUR: 'it returns false'. Refute it at one input. -/
def reachTrueWrong : ChangeSpec := { name := "reachTrue", fn := fun _ => fun
  | [d1, d2, d3, d4] => { results := [.lit (.bool false)], args := [d1, d2, d3, d4] }
  | _ => none }
def ReachTrueWrongFalsely : Prop := reachTrueRow.holds Try.pinned (OpenSpec.ofChange reachTrueWrong)

/-- 'linchpinlaw.ReachWay': WHATEVER THE INPUT: true; the input reads as it did. -/
def reachWaySpec : ChangeSpec := { name := "reachWay", fn := fun _ => fun
  | [d1, d2] => { results := [.lit (.bool true)], args := [d1, d2] }
  | _ => none }
def reachWayRow : OpenClaim := { program := "ytongajonecgdpac", sum := "228bf067ca6d7e64940dff413fb547d0c4f844923383d52b650e2ba3e1bfaa15", func := "linchpin/linchpinlaw.ReachWay", spec := "reachWay", unfollowed := true, recurses := true, apart := false }
def ReachWaySaid : Prop := reachWayRow.holds Try.pinned (OpenSpec.ofChange reachWaySpec)

/-- ITS FALSE NEIGHBOUR: 'it returns false'. Refute it at one input. -/
def reachWayWrong : ChangeSpec := { name := "reachWay", fn := fun _ => fun
  | [d1, d2] => { results := [.lit (.bool false)], args := [d1, d2] }
  | _ => none }
def ReachWayWrongFalsely : Prop := reachWayRow.holds Try.pinned (OpenSpec.ofChange reachWayWrong)

/-- 'linchpinlaw.SweepTells': WHATEVER THE INPUT: true; the input reads as it did. -/
def sweepTellsSpec : ChangeSpec := { name := "sweepTells", fn := fun _ => fun
  | [d] => { results := [.lit (.bool true)], args := [d] }
  | _ => none }
def sweepTellsRow : OpenClaim := { program := "ytongajonecgdpac", sum := "228bf067ca6d7e64940dff413fb547d0c4f844923383d52b650e2ba3e1bfaa15", func := "linchpin/linchpinlaw.SweepTells", spec := "sweepTells", unfollowed := true, recurses := true, apart := false }
def SweepTellsSaid : Prop := sweepTellsRow.holds Try.pinned (OpenSpec.ofChange sweepTellsSpec)

/-- ITS FALSE NEIGHBOUR: 'it returns false'. Refute it at one input. -/
def sweepTellsWrong : ChangeSpec := { name := "sweepTells", fn := fun _ => fun
  | [d] => { results := [.lit (.bool false)], args := [d] }
  | _ => none }
def SweepTellsWrongFalsely : Prop := sweepTellsRow.holds Try.pinned (OpenSpec.ofChange sweepTellsWrong)

/- THE SECOND FORM. 'bulk': how many values and letters a reading holds, each counted each time it is reached (what is shared counts as often as it is met; a slice's spare places count too). A statement '..UptoSaid' is the law's where the arguments, and the package variables that the reading takes, are together of bulk at most 1048576: NARROWER than '..Said'. Prove '..Said' where nothing that the law and all that it calls make is longer than what came in: it says more and counts as full. Else prove '..UptoSaid'. A law counts once. -/
mutual
def uptoBulk {H : Type} : DataW H → Nat
  | .lit (.string bytes) => bytes.length + 1
  | .lit _ => 1
  | .nil => 1
  | .ptr d => uptoBulk d + 1
  | .slice elems spare => uptoBulkAll elems + uptoBulkAll spare + 1
  | .agg parts => uptoBulkAll parts + 1
  | .iface _ d => uptoBulk d + 1
  | .map entries => uptoBulkEntries entries + 1
  | .held _ => 1
def uptoBulkAll {H : Type} : List (DataW H) → Nat
  | [] => 0
  | d :: r => uptoBulk d + uptoBulkAll r
def uptoBulkEntries {H : Type} : List (Lit × DataW H) → Nat
  | [] => 0
  | x :: r => uptoBulkEntry x + uptoBulkEntries r
def uptoBulkEntry {H : Type} : Lit × DataW H → Nat
  | (.string bytes, d) => bytes.length + uptoBulk d + 1
  | (_, d) => uptoBulk d + 1
 end
def uptoSmall : (H : Type) → List (DataW H) → Bool := fun _ ds => decide (uptoBulkAll ds ≤ 1048576)
def OpenSpec.upto (s : _root_.Go.ChangeSpec) : _root_.Go.OpenSpec := { _root_.Go.OpenSpec.ofChange s with cond := some uptoSmall }

/-- 'linchpinlaw.TickSplit', WHERE WHAT IT READS IS OF BULK AT MOST 1048576: true; the input reads as it did. -/
def tickSplitUptoRow : OpenClaim := { program := "ytongajonecgdpac", sum := "228bf067ca6d7e64940dff413fb547d0c4f844923383d52b650e2ba3e1bfaa15", func := "linchpin/linchpinlaw.TickSplit", spec := "tickSplit", unfollowed := true, recurses := true, apart := false, narrowed := true }
def TickSplitUptoSaid : Prop := tickSplitUptoRow.holds Try.pinned (OpenSpec.upto tickSplitSpec)

/-- 'linchpinlaw.ReachStates', WHERE WHAT IT READS IS OF BULK AT MOST 1048576: true; the input reads as it did. -/
def reachStatesUptoRow : OpenClaim := { program := "ytongajonecgdpac", sum := "228bf067ca6d7e64940dff413fb547d0c4f844923383d52b650e2ba3e1bfaa15", func := "linchpin/linchpinlaw.ReachStates", spec := "reachStates", unfollowed := true, recurses := true, apart := false, narrowed := true }
def ReachStatesUptoSaid : Prop := reachStatesUptoRow.holds Try.pinned (OpenSpec.upto reachStatesSpec)

/-- 'linchpinlaw.ReachBad', WHERE WHAT IT READS IS OF BULK AT MOST 1048576: true; the input reads as it did. -/
def reachBadUptoRow : OpenClaim := { program := "ytongajonecgdpac", sum := "228bf067ca6d7e64940dff413fb547d0c4f844923383d52b650e2ba3e1bfaa15", func := "linchpin/linchpinlaw.ReachBad", spec := "reachBad", unfollowed := true, recurses := true, apart := false, narrowed := true }
def ReachBadUptoSaid : Prop := reachBadUptoRow.holds Try.pinned (OpenSpec.upto reachBadSpec)

/-- 'linchpinlaw.ReachTrue', WHERE WHAT IT READS IS OF BULK AT MOST 1048576: true; the input reads as it did. -/
def reachTrueUptoRow : OpenClaim := { program := "ytongajonecgdpac", sum := "228bf067ca6d7e64940dff413fb547d0c4f844923383d52b650e2ba3e1bfaa15", func := "linchpin/linchpinlaw.ReachTrue", spec := "reachTrue", unfollowed := true, recurses := true, apart := false, narrowed := true }
def ReachTrueUptoSaid : Prop := reachTrueUptoRow.holds Try.pinned (OpenSpec.upto reachTrueSpec)

/-- 'linchpinlaw.ReachWay', WHERE WHAT IT READS IS OF BULK AT MOST 1048576: true; the input reads as it did. -/
def reachWayUptoRow : OpenClaim := { program := "ytongajonecgdpac", sum := "228bf067ca6d7e64940dff413fb547d0c4f844923383d52b650e2ba3e1bfaa15", func := "linchpin/linchpinlaw.ReachWay", spec := "reachWay", unfollowed := true, recurses := true, apart := false, narrowed := true }
def ReachWayUptoSaid : Prop := reachWayUptoRow.holds Try.pinned (OpenSpec.upto reachWaySpec)

/-- 'linchpinlaw.SweepTells', WHERE WHAT IT READS IS OF BULK AT MOST 1048576: true; the input reads as it did. -/
def sweepTellsUptoRow : OpenClaim := { program := "ytongajonecgdpac", sum := "228bf067ca6d7e64940dff413fb547d0c4f844923383d52b650e2ba3e1bfaa15", func := "linchpin/linchpinlaw.SweepTells", spec := "sweepTells", unfollowed := true, recurses := true, apart := false, narrowed := true }
def SweepTellsUptoSaid : Prop := sweepTellsUptoRow.holds Try.pinned (OpenSpec.upto sweepTellsSpec)

end Rows
end Go.Proofs.Ytongajonecgdpac
