/-
  No cell of these rows narrows 'for every input' (looked for: loops, veiled, ifaces, maps, wideKeys, modest, calm, conditions, laid).
  DERIVED. THE GIVEN ROWS OF THIS SEAT. 6 by the template 'for every input the law returns true; each argument reads behind the call as it read before'; 0 by the template 'total and deterministic' (their statements: YtongajonecgdpadTotals.lean).
  GIVEN WITH THE SEED: the statements are not yours to turn. If you find one false, say at which input.
  Laid BY PROGRAM, IN A SANDBOX (cutbox-rows.mjs): the forced cells as the released guide's own fill.sh prints them over the translation cdfac52bae9164fe… (all of the seat's roots in one cut). By AI agents, Wed Nov 11 2026. No macro, syntax, notation, axiom, sorry.
-/
import Derived.Test.YtongajonecgdpadChecked
import GoSem.Claim
import GoSem.ClaimJoined
import GoSem.ClaimMapViews
import Derived.JoinedTies
import Derived.KernelRfl
namespace Go.Proofs.Ytongajonecgdpad
/- THE CELL 'sum', in the pinned program and in every row, IS THE sha256 OF THE DUMP (.gsa) THAT YtongajonecgdpadProg.lean LOADS. Nothing in Lean hashes anything: it is a label: what it is worth is what the hold of that sum in a sandbox is worth. -/
noncomputable def Try.pinned : Pinned := { name := "ytongajonecgdpad", sum := "cdfac52bae9164fe94cbe32bf85eef5f16d9680e76770a9b95f36bdcb8fd3bd4", checked := Try.checked }
namespace Rows
def none {H : Type} : Left H := { results := [], args := [] }

/-- 'linchpinlaw.SweepFold': WHATEVER THE INPUT: true; the input reads as it did. -/
def sweepFoldSpec : ChangeSpec := { name := "sweepFold", fn := fun _ => fun
  | [d1, d2, d3] => { results := [.lit (.bool true)], args := [d1, d2, d3] }
  | _ => none }
def sweepFoldRow : OpenClaim := { program := "ytongajonecgdpad", sum := "cdfac52bae9164fe94cbe32bf85eef5f16d9680e76770a9b95f36bdcb8fd3bd4", func := "linchpin/linchpinlaw.SweepFold", spec := "sweepFold", unfollowed := true, recurses := true, apart := false }
def SweepFoldSaid : Prop := sweepFoldRow.holds Try.pinned (OpenSpec.ofChange sweepFoldSpec)

/-- ITS FALSE NEIGHBOUR: 'it returns false'. Refute it at one input. -/
def sweepFoldWrong : ChangeSpec := { name := "sweepFold", fn := fun _ => fun
  | [d1, d2, d3] => { results := [.lit (.bool false)], args := [d1, d2, d3] }
  | _ => none }
def SweepFoldWrongFalsely : Prop := sweepFoldRow.holds Try.pinned (OpenSpec.ofChange sweepFoldWrong)

/-- 'linchpinlaw.SweepDrop': WHATEVER THE INPUT: true; the input reads as it did. -/
def sweepDropSpec : ChangeSpec := { name := "sweepDrop", fn := fun _ => fun
  | [d1, d2, d3] => { results := [.lit (.bool true)], args := [d1, d2, d3] }
  | _ => none }
def sweepDropRow : OpenClaim := { program := "ytongajonecgdpad", sum := "cdfac52bae9164fe94cbe32bf85eef5f16d9680e76770a9b95f36bdcb8fd3bd4", func := "linchpin/linchpinlaw.SweepDrop", spec := "sweepDrop", unfollowed := true, recurses := true, apart := false }
def SweepDropSaid : Prop := sweepDropRow.holds Try.pinned (OpenSpec.ofChange sweepDropSpec)

/-- ITS FALSE NEIGHBOUR: 'it returns false'. Refute it at one input. -/
def sweepDropWrong : ChangeSpec := { name := "sweepDrop", fn := fun _ => fun
  | [d1, d2, d3] => { results := [.lit (.bool false)], args := [d1, d2, d3] }
  | _ => none }
def SweepDropWrongFalsely : Prop := sweepDropRow.holds Try.pinned (OpenSpec.ofChange sweepDropWrong)

/-- 'linchpinlaw.SweepSame': WHATEVER THE INPUT: true; the input reads as it did. -/
def sweepSameSpec : ChangeSpec := { name := "sweepSame", fn := fun _ => fun
  | [d1, d2] => { results := [.lit (.bool true)], args := [d1, d2] }
  | _ => none }
def sweepSameRow : OpenClaim := { program := "ytongajonecgdpad", sum := "cdfac52bae9164fe94cbe32bf85eef5f16d9680e76770a9b95f36bdcb8fd3bd4", func := "linchpin/linchpinlaw.SweepSame", spec := "sweepSame", unfollowed := true, recurses := true, apart := false }
def SweepSameSaid : Prop := sweepSameRow.holds Try.pinned (OpenSpec.ofChange sweepSameSpec)

/-- ITS FALSE NEIGHBOUR: 'it returns false'. Refute it at one input. -/
def sweepSameWrong : ChangeSpec := { name := "sweepSame", fn := fun _ => fun
  | [d1, d2] => { results := [.lit (.bool false)], args := [d1, d2] }
  | _ => none }
def SweepSameWrongFalsely : Prop := sweepSameRow.holds Try.pinned (OpenSpec.ofChange sweepSameWrong)

/-- 'linchpinlaw.LevelOrders': WHATEVER THE INPUT: true; the input reads as it did. -/
def levelOrdersSpec : ChangeSpec := { name := "levelOrders", fn := fun _ => fun
  | [d] => { results := [.lit (.bool true)], args := [d] }
  | _ => none }
def levelOrdersRow : OpenClaim := { program := "ytongajonecgdpad", sum := "cdfac52bae9164fe94cbe32bf85eef5f16d9680e76770a9b95f36bdcb8fd3bd4", func := "linchpin/linchpinlaw.LevelOrders", spec := "levelOrders", unfollowed := true, recurses := true, apart := false }
def LevelOrdersSaid : Prop := levelOrdersRow.holds Try.pinned (OpenSpec.ofChange levelOrdersSpec)

/-- ITS FALSE NEIGHBOUR: 'it returns false'. Refute it at one input. -/
def levelOrdersWrong : ChangeSpec := { name := "levelOrders", fn := fun _ => fun
  | [d] => { results := [.lit (.bool false)], args := [d] }
  | _ => none }
def LevelOrdersWrongFalsely : Prop := levelOrdersRow.holds Try.pinned (OpenSpec.ofChange levelOrdersWrong)

/-- 'linchpinlaw.LevelSteps': WHATEVER THE INPUT: true; the input reads as it did. -/
def levelStepsSpec : ChangeSpec := { name := "levelSteps", fn := fun _ => fun
  | [d1, d2, d3] => { results := [.lit (.bool true)], args := [d1, d2, d3] }
  | _ => none }
def levelStepsRow : OpenClaim := { program := "ytongajonecgdpad", sum := "cdfac52bae9164fe94cbe32bf85eef5f16d9680e76770a9b95f36bdcb8fd3bd4", func := "linchpin/linchpinlaw.LevelSteps", spec := "levelSteps", unfollowed := true, recurses := true, apart := false }
def LevelStepsSaid : Prop := levelStepsRow.holds Try.pinned (OpenSpec.ofChange levelStepsSpec)

/-- ITS FALSE NEIGHBOUR: 'it returns false'. Refute it at one input. -/
def levelStepsWrong : ChangeSpec := { name := "levelSteps", fn := fun _ => fun
  | [d1, d2, d3] => { results := [.lit (.bool false)], args := [d1, d2, d3] }
  | _ => none }
def LevelStepsWrongFalsely : Prop := levelStepsRow.holds Try.pinned (OpenSpec.ofChange levelStepsWrong)

/-- 'linchpinlaw.LevelTrue': WHATEVER THE INPUT: true; the input reads as it did. -/
def levelTrueSpec : ChangeSpec := { name := "levelTrue", fn := fun _ => fun
  | [d1, d2, d3] => { results := [.lit (.bool true)], args := [d1, d2, d3] }
  | _ => none }
def levelTrueRow : OpenClaim := { program := "ytongajonecgdpad", sum := "cdfac52bae9164fe94cbe32bf85eef5f16d9680e76770a9b95f36bdcb8fd3bd4", func := "linchpin/linchpinlaw.LevelTrue", spec := "levelTrue", unfollowed := true, recurses := true, apart := false }
def LevelTrueSaid : Prop := levelTrueRow.holds Try.pinned (OpenSpec.ofChange levelTrueSpec)

/-- ITS FALSE NEIGHBOUR: 'it returns false'. Refute it at one input. -/
def levelTrueWrong : ChangeSpec := { name := "levelTrue", fn := fun _ => fun
  | [d1, d2, d3] => { results := [.lit (.bool false)], args := [d1, d2, d3] }
  | _ => none }
def LevelTrueWrongFalsely : Prop := levelTrueRow.holds Try.pinned (OpenSpec.ofChange levelTrueWrong)

/- THE SECOND FORM. 'bulk': how many values and letters a reading holds, each counted each time it is reached (what is shared counts as often as it is met; a slice's spare places count too). A statement '..UptoSaid' is the law's where the arguments, and the package variables that the reading takes, are together of bulk at most 1048576: NARROWER than '..Said'. Prove '..Said' where nothing that the law and all that it calls make is longer than what came in: it says more and counts as full. Else prove '..UptoSaid'. A law counts once. -/
mutual
def uptoBulk {H : Type} : DataW H → Nat
  | .lit (.string bytes) => bytes.length + 1
  | .lit _ => 1
  | .nil => 1
  | .ptr d => uptoBulk d + 1
  | .slice elems spare => uptoBulkAll elems + uptoBulkAll spare + 1
  | .agg parts => uptoBulkAll parts + 1
  | .iface _ d => uptoBulk d + 1
  | .map entries => uptoBulkEntries entries + 1
  | .held _ => 1
def uptoBulkAll {H : Type} : List (DataW H) → Nat
  | [] => 0
  | d :: r => uptoBulk d + uptoBulkAll r
def uptoBulkEntries {H : Type} : List (Lit × DataW H) → Nat
  | [] => 0
  | x :: r => uptoBulkEntry x + uptoBulkEntries r
def uptoBulkEntry {H : Type} : Lit × DataW H → Nat
  | (.string bytes, d) => bytes.length + uptoBulk d + 1
  | (_, d) => uptoBulk d + 1
 end
def uptoSmall : (H : Type) → List (DataW H) → Bool := fun _ ds => decide (uptoBulkAll ds ≤ 1048576)
def OpenSpec.upto (s : _root_.Go.ChangeSpec) : _root_.Go.OpenSpec := { _root_.Go.OpenSpec.ofChange s with cond := some uptoSmall }

/-- 'linchpinlaw.SweepFold', WHERE WHAT IT READS IS OF BULK AT MOST 1048576: true; the input reads as it did. -/
def sweepFoldUptoRow : OpenClaim := { program := "ytongajonecgdpad", sum := "cdfac52bae9164fe94cbe32bf85eef5f16d9680e76770a9b95f36bdcb8fd3bd4", func := "linchpin/linchpinlaw.SweepFold", spec := "sweepFold", unfollowed := true, recurses := true, apart := false, narrowed := true }
def SweepFoldUptoSaid : Prop := sweepFoldUptoRow.holds Try.pinned (OpenSpec.upto sweepFoldSpec)

/-- 'linchpinlaw.SweepDrop', WHERE WHAT IT READS IS OF BULK AT MOST 1048576: true; the input reads as it did. -/
def sweepDropUptoRow : OpenClaim := { program := "ytongajonecgdpad", sum := "cdfac52bae9164fe94cbe32bf85eef5f16d9680e76770a9b95f36bdcb8fd3bd4", func := "linchpin/linchpinlaw.SweepDrop", spec := "sweepDrop", unfollowed := true, recurses := true, apart := false, narrowed := true }
def SweepDropUptoSaid : Prop := sweepDropUptoRow.holds Try.pinned (OpenSpec.upto sweepDropSpec)

/-- 'linchpinlaw.SweepSame', WHERE WHAT IT READS IS OF BULK AT MOST 1048576: true; the input reads as it did. -/
def sweepSameUptoRow : OpenClaim := { program := "ytongajonecgdpad", sum := "cdfac52bae9164fe94cbe32bf85eef5f16d9680e76770a9b95f36bdcb8fd3bd4", func := "linchpin/linchpinlaw.SweepSame", spec := "sweepSame", unfollowed := true, recurses := true, apart := false, narrowed := true }
def SweepSameUptoSaid : Prop := sweepSameUptoRow.holds Try.pinned (OpenSpec.upto sweepSameSpec)

/-- 'linchpinlaw.LevelOrders', WHERE WHAT IT READS IS OF BULK AT MOST 1048576: true; the input reads as it did. -/
def levelOrdersUptoRow : OpenClaim := { program := "ytongajonecgdpad", sum := "cdfac52bae9164fe94cbe32bf85eef5f16d9680e76770a9b95f36bdcb8fd3bd4", func := "linchpin/linchpinlaw.LevelOrders", spec := "levelOrders", unfollowed := true, recurses := true, apart := false, narrowed := true }
def LevelOrdersUptoSaid : Prop := levelOrdersUptoRow.holds Try.pinned (OpenSpec.upto levelOrdersSpec)

/-- 'linchpinlaw.LevelSteps', WHERE WHAT IT READS IS OF BULK AT MOST 1048576: true; the input reads as it did. -/
def levelStepsUptoRow : OpenClaim := { program := "ytongajonecgdpad", sum := "cdfac52bae9164fe94cbe32bf85eef5f16d9680e76770a9b95f36bdcb8fd3bd4", func := "linchpin/linchpinlaw.LevelSteps", spec := "levelSteps", unfollowed := true, recurses := true, apart := false, narrowed := true }
def LevelStepsUptoSaid : Prop := levelStepsUptoRow.holds Try.pinned (OpenSpec.upto levelStepsSpec)

/-- 'linchpinlaw.LevelTrue', WHERE WHAT IT READS IS OF BULK AT MOST 1048576: true; the input reads as it did. -/
def levelTrueUptoRow : OpenClaim := { program := "ytongajonecgdpad", sum := "cdfac52bae9164fe94cbe32bf85eef5f16d9680e76770a9b95f36bdcb8fd3bd4", func := "linchpin/linchpinlaw.LevelTrue", spec := "levelTrue", unfollowed := true, recurses := true, apart := false, narrowed := true }
def LevelTrueUptoSaid : Prop := levelTrueUptoRow.holds Try.pinned (OpenSpec.upto levelTrueSpec)

end Rows
end Go.Proofs.Ytongajonecgdpad
