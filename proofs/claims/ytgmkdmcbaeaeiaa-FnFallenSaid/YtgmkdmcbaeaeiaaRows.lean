/-
  No cell of these rows narrows 'for every input' (looked for: loops, veiled, ifaces, maps, wideKeys, modest, calm, conditions, laid).
  DERIVED. THE GIVEN ROWS OF THIS SEAT. 9 by the template 'for every input the law returns true; each argument reads behind the call as it read before'; 0 by the template 'total and deterministic' (their statements: YtgmkdmcbaeaeiaaTotals.lean).
  GIVEN WITH THE SEED: the statements are not yours to turn. If you find one false, say at which input.
  Laid BY PROGRAM, IN A SANDBOX (cutbox-rows.mjs): the forced cells as the released guide's own fill.sh prints them over the translation 7723206ee4f3a3ef… (all of the seat's roots in one cut). By AI agents, Wed Nov 11 2026. No macro, syntax, notation, axiom, sorry.
-/
import Derived.Test.YtgmkdmcbaeaeiaaChecked
import GoSem.Claim
import GoSem.ClaimJoined
import GoSem.ClaimMapViews
import Derived.JoinedTies
import Derived.KernelRfl
namespace Go.Proofs.Ytgmkdmcbaeaeiaa
/- THE CELL 'sum', in the pinned program and in every row, IS THE sha256 OF THE DUMP (.gsa) THAT YtgmkdmcbaeaeiaaProg.lean LOADS. Nothing in Lean hashes anything: it is a label: what it is worth is what the hold of that sum in a sandbox is worth. -/
noncomputable def Try.pinned : Pinned := { name := "ytgmkdmcbaeaeiaa", sum := "7723206ee4f3a3ef47faf9530511ebddc149634c7e8cc97ca3af862b839842f3", checked := Try.checked }
namespace Rows
def none {H : Type} : Left H := { results := [], args := [] }

/-- 'laws.FnDisks': WHATEVER THE INPUT: true; the input reads as it did. -/
def fnDisksSpec : ChangeSpec := { name := "fnDisks", fn := fun _ => fun
  | [d] => { results := [.lit (.bool true)], args := [d] }
  | _ => none }
def fnDisksRow : OpenClaim := { program := "ytgmkdmcbaeaeiaa", sum := "7723206ee4f3a3ef47faf9530511ebddc149634c7e8cc97ca3af862b839842f3", func := "loop.example/g00406/laws.FnDisks", spec := "fnDisks", unfollowed := true, recurses := true, apart := false }
def FnDisksSaid : Prop := fnDisksRow.holds Try.pinned (OpenSpec.ofChange fnDisksSpec)

/-- ITS FALSE NEIGHBOUR: 'it returns false'. Refute it at one input. -/
def fnDisksWrong : ChangeSpec := { name := "fnDisks", fn := fun _ => fun
  | [d] => { results := [.lit (.bool false)], args := [d] }
  | _ => none }
def FnDisksWrongFalsely : Prop := fnDisksRow.holds Try.pinned (OpenSpec.ofChange fnDisksWrong)

/-- 'laws.FnFallen': WHATEVER THE INPUT: true; the input reads as it did. -/
def fnFallenSpec : ChangeSpec := { name := "fnFallen", fn := fun _ => fun
  | [d] => { results := [.lit (.bool true)], args := [d] }
  | _ => none }
def fnFallenRow : OpenClaim := { program := "ytgmkdmcbaeaeiaa", sum := "7723206ee4f3a3ef47faf9530511ebddc149634c7e8cc97ca3af862b839842f3", func := "loop.example/g00406/laws.FnFallen", spec := "fnFallen", apart := false }
def FnFallenSaid : Prop := fnFallenRow.holds Try.pinned (OpenSpec.ofChange fnFallenSpec)

/-- ITS FALSE NEIGHBOUR: 'it returns false'. Refute it at one input. -/
def fnFallenWrong : ChangeSpec := { name := "fnFallen", fn := fun _ => fun
  | [d] => { results := [.lit (.bool false)], args := [d] }
  | _ => none }
def FnFallenWrongFalsely : Prop := fnFallenRow.holds Try.pinned (OpenSpec.ofChange fnFallenWrong)

/-- 'laws.FnExactDiskOk': WHATEVER THE INPUT: true; the input reads as it did. -/
def fnExactDiskOkSpec : ChangeSpec := { name := "fnExactDiskOk", fn := fun _ => fun
  | [d] => { results := [.lit (.bool true)], args := [d] }
  | _ => none }
def fnExactDiskOkRow : OpenClaim := { program := "ytgmkdmcbaeaeiaa", sum := "7723206ee4f3a3ef47faf9530511ebddc149634c7e8cc97ca3af862b839842f3", func := "loop.example/g00406/laws.FnExactDiskOk", spec := "fnExactDiskOk", apart := false }
def FnExactDiskOkSaid : Prop := fnExactDiskOkRow.holds Try.pinned (OpenSpec.ofChange fnExactDiskOkSpec)

/-- ITS FALSE NEIGHBOUR: 'it returns false'. Refute it at one input. -/
def fnExactDiskOkWrong : ChangeSpec := { name := "fnExactDiskOk", fn := fun _ => fun
  | [d] => { results := [.lit (.bool false)], args := [d] }
  | _ => none }
def FnExactDiskOkWrongFalsely : Prop := fnExactDiskOkRow.holds Try.pinned (OpenSpec.ofChange fnExactDiskOkWrong)

/-- 'laws.FnExactNewDisk': WHATEVER THE INPUT: true; the input reads as it did. -/
def fnExactNewDiskSpec : ChangeSpec := { name := "fnExactNewDisk", fn := fun _ => fun
  | [d1, d2] => { results := [.lit (.bool true)], args := [d1, d2] }
  | _ => none }
def fnExactNewDiskRow : OpenClaim := { program := "ytgmkdmcbaeaeiaa", sum := "7723206ee4f3a3ef47faf9530511ebddc149634c7e8cc97ca3af862b839842f3", func := "loop.example/g00406/laws.FnExactNewDisk", spec := "fnExactNewDisk", unfollowed := true, recurses := true, apart := false }
def FnExactNewDiskSaid : Prop := fnExactNewDiskRow.holds Try.pinned (OpenSpec.ofChange fnExactNewDiskSpec)

/-- ITS FALSE NEIGHBOUR: 'it returns false'. Refute it at one input. -/
def fnExactNewDiskWrong : ChangeSpec := { name := "fnExactNewDisk", fn := fun _ => fun
  | [d1, d2] => { results := [.lit (.bool false)], args := [d1, d2] }
  | _ => none }
def FnExactNewDiskWrongFalsely : Prop := fnExactNewDiskRow.holds Try.pinned (OpenSpec.ofChange fnExactNewDiskWrong)

/-- 'laws.FnExactRead': WHATEVER THE INPUT: true; the input reads as it did. -/
def fnExactReadSpec : ChangeSpec := { name := "fnExactRead", fn := fun _ => fun
  | [d1, d2] => { results := [.lit (.bool true)], args := [d1, d2] }
  | _ => none }
def fnExactReadRow : OpenClaim := { program := "ytgmkdmcbaeaeiaa", sum := "7723206ee4f3a3ef47faf9530511ebddc149634c7e8cc97ca3af862b839842f3", func := "loop.example/g00406/laws.FnExactRead", spec := "fnExactRead", unfollowed := true, recurses := true, apart := false }
def FnExactReadSaid : Prop := fnExactReadRow.holds Try.pinned (OpenSpec.ofChange fnExactReadSpec)

/-- ITS FALSE NEIGHBOUR: 'it returns false'. Refute it at one input. -/
def fnExactReadWrong : ChangeSpec := { name := "fnExactRead", fn := fun _ => fun
  | [d1, d2] => { results := [.lit (.bool false)], args := [d1, d2] }
  | _ => none }
def FnExactReadWrongFalsely : Prop := fnExactReadRow.holds Try.pinned (OpenSpec.ofChange fnExactReadWrong)

/-- 'laws.FnExactWritten': WHATEVER THE INPUT: true; the input reads as it did. -/
def fnExactWrittenSpec : ChangeSpec := { name := "fnExactWritten", fn := fun _ => fun
  | [d1, d2, d3] => { results := [.lit (.bool true)], args := [d1, d2, d3] }
  | _ => none }
def fnExactWrittenRow : OpenClaim := { program := "ytgmkdmcbaeaeiaa", sum := "7723206ee4f3a3ef47faf9530511ebddc149634c7e8cc97ca3af862b839842f3", func := "loop.example/g00406/laws.FnExactWritten", spec := "fnExactWritten", unfollowed := true, recurses := true, apart := false }
def FnExactWrittenSaid : Prop := fnExactWrittenRow.holds Try.pinned (OpenSpec.ofChange fnExactWrittenSpec)

/-- ITS FALSE NEIGHBOUR: 'it returns false'. Refute it at one input. -/
def fnExactWrittenWrong : ChangeSpec := { name := "fnExactWritten", fn := fun _ => fun
  | [d1, d2, d3] => { results := [.lit (.bool false)], args := [d1, d2, d3] }
  | _ => none }
def FnExactWrittenWrongFalsely : Prop := fnExactWrittenRow.holds Try.pinned (OpenSpec.ofChange fnExactWrittenWrong)

/-- 'laws.FnExactFlushed': WHATEVER THE INPUT: true; the input reads as it did. -/
def fnExactFlushedSpec : ChangeSpec := { name := "fnExactFlushed", fn := fun _ => fun
  | [d] => { results := [.lit (.bool true)], args := [d] }
  | _ => none }
def fnExactFlushedRow : OpenClaim := { program := "ytgmkdmcbaeaeiaa", sum := "7723206ee4f3a3ef47faf9530511ebddc149634c7e8cc97ca3af862b839842f3", func := "loop.example/g00406/laws.FnExactFlushed", spec := "fnExactFlushed", apart := false }
def FnExactFlushedSaid : Prop := fnExactFlushedRow.holds Try.pinned (OpenSpec.ofChange fnExactFlushedSpec)

/-- ITS FALSE NEIGHBOUR: 'it returns false'. Refute it at one input. -/
def fnExactFlushedWrong : ChangeSpec := { name := "fnExactFlushed", fn := fun _ => fun
  | [d] => { results := [.lit (.bool false)], args := [d] }
  | _ => none }
def FnExactFlushedWrongFalsely : Prop := fnExactFlushedRow.holds Try.pinned (OpenSpec.ofChange fnExactFlushedWrong)

/-- 'laws.FnExactFallen': WHATEVER THE INPUT: true; the input reads as it did. -/
def fnExactFallenSpec : ChangeSpec := { name := "fnExactFallen", fn := fun _ => fun
  | [d1, d2] => { results := [.lit (.bool true)], args := [d1, d2] }
  | _ => none }
def fnExactFallenRow : OpenClaim := { program := "ytgmkdmcbaeaeiaa", sum := "7723206ee4f3a3ef47faf9530511ebddc149634c7e8cc97ca3af862b839842f3", func := "loop.example/g00406/laws.FnExactFallen", spec := "fnExactFallen", apart := false }
def FnExactFallenSaid : Prop := fnExactFallenRow.holds Try.pinned (OpenSpec.ofChange fnExactFallenSpec)

/-- ITS FALSE NEIGHBOUR: 'it returns false'. Refute it at one input. -/
def fnExactFallenWrong : ChangeSpec := { name := "fnExactFallen", fn := fun _ => fun
  | [d1, d2] => { results := [.lit (.bool false)], args := [d1, d2] }
  | _ => none }
def FnExactFallenWrongFalsely : Prop := fnExactFallenRow.holds Try.pinned (OpenSpec.ofChange fnExactFallenWrong)

/-- 'laws.FnExactDied': WHATEVER THE INPUT: true; the input reads as it did. -/
def fnExactDiedSpec : ChangeSpec := { name := "fnExactDied", fn := fun _ => fun
  | [d] => { results := [.lit (.bool true)], args := [d] }
  | _ => none }
def fnExactDiedRow : OpenClaim := { program := "ytgmkdmcbaeaeiaa", sum := "7723206ee4f3a3ef47faf9530511ebddc149634c7e8cc97ca3af862b839842f3", func := "loop.example/g00406/laws.FnExactDied", spec := "fnExactDied", apart := false }
def FnExactDiedSaid : Prop := fnExactDiedRow.holds Try.pinned (OpenSpec.ofChange fnExactDiedSpec)

/-- ITS FALSE NEIGHBOUR: 'it returns false'. Refute it at one input. -/
def fnExactDiedWrong : ChangeSpec := { name := "fnExactDied", fn := fun _ => fun
  | [d] => { results := [.lit (.bool false)], args := [d] }
  | _ => none }
def FnExactDiedWrongFalsely : Prop := fnExactDiedRow.holds Try.pinned (OpenSpec.ofChange fnExactDiedWrong)

/- THE SECOND FORM. 'bulk': how many values and letters a reading holds, each counted each time it is reached (what is shared counts as often as it is met; a slice's spare places count too). A statement '..UptoSaid' is the law's where the arguments, and the package variables that the reading takes, are together of bulk at most 1048576: NARROWER than '..Said'. Prove '..Said' where nothing that the law and all that it calls make is longer than what came in: it says more and counts as full. Else prove '..UptoSaid'. A law counts once. -/
mutual
def uptoBulk {H : Type} : DataW H → Nat
  | .lit (.string bytes) => bytes.length + 1
  | .lit _ => 1
  | .nil => 1
  | .ptr d => uptoBulk d + 1
  | .slice elems spare => uptoBulkAll elems + uptoBulkAll spare + 1
  | .agg parts => uptoBulkAll parts + 1
  | .iface _ d => uptoBulk d + 1
  | .map entries => uptoBulkEntries entries + 1
  | .held _ => 1
def uptoBulkAll {H : Type} : List (DataW H) → Nat
  | [] => 0
  | d :: r => uptoBulk d + uptoBulkAll r
def uptoBulkEntries {H : Type} : List (Lit × DataW H) → Nat
  | [] => 0
  | x :: r => uptoBulkEntry x + uptoBulkEntries r
def uptoBulkEntry {H : Type} : Lit × DataW H → Nat
  | (.string bytes, d) => bytes.length + uptoBulk d + 1
  | (_, d) => uptoBulk d + 1
 end
def uptoSmall : (H : Type) → List (DataW H) → Bool := fun _ ds => decide (uptoBulkAll ds ≤ 1048576)
def OpenSpec.upto (s : _root_.Go.ChangeSpec) : _root_.Go.OpenSpec := { _root_.Go.OpenSpec.ofChange s with cond := some uptoSmall }

/-- 'laws.FnDisks', WHERE WHAT IT READS IS OF BULK AT MOST 1048576: true; the input reads as it did. -/
def fnDisksUptoRow : OpenClaim := { program := "ytgmkdmcbaeaeiaa", sum := "7723206ee4f3a3ef47faf9530511ebddc149634c7e8cc97ca3af862b839842f3", func := "loop.example/g00406/laws.FnDisks", spec := "fnDisks", unfollowed := true, recurses := true, apart := false, narrowed := true }
def FnDisksUptoSaid : Prop := fnDisksUptoRow.holds Try.pinned (OpenSpec.upto fnDisksSpec)

/-- 'laws.FnFallen', WHERE WHAT IT READS IS OF BULK AT MOST 1048576: true; the input reads as it did. -/
def fnFallenUptoRow : OpenClaim := { program := "ytgmkdmcbaeaeiaa", sum := "7723206ee4f3a3ef47faf9530511ebddc149634c7e8cc97ca3af862b839842f3", func := "loop.example/g00406/laws.FnFallen", spec := "fnFallen", apart := false, narrowed := true }
def FnFallenUptoSaid : Prop := fnFallenUptoRow.holds Try.pinned (OpenSpec.upto fnFallenSpec)

/-- 'laws.FnExactDiskOk', WHERE WHAT IT READS IS OF BULK AT MOST 1048576: true; the input reads as it did. -/
def fnExactDiskOkUptoRow : OpenClaim := { program := "ytgmkdmcbaeaeiaa", sum := "7723206ee4f3a3ef47faf9530511ebddc149634c7e8cc97ca3af862b839842f3", func := "loop.example/g00406/laws.FnExactDiskOk", spec := "fnExactDiskOk", apart := false, narrowed := true }
def FnExactDiskOkUptoSaid : Prop := fnExactDiskOkUptoRow.holds Try.pinned (OpenSpec.upto fnExactDiskOkSpec)

/-- 'laws.FnExactNewDisk', WHERE WHAT IT READS IS OF BULK AT MOST 1048576: true; the input reads as it did. -/
def fnExactNewDiskUptoRow : OpenClaim := { program := "ytgmkdmcbaeaeiaa", sum := "7723206ee4f3a3ef47faf9530511ebddc149634c7e8cc97ca3af862b839842f3", func := "loop.example/g00406/laws.FnExactNewDisk", spec := "fnExactNewDisk", unfollowed := true, recurses := true, apart := false, narrowed := true }
def FnExactNewDiskUptoSaid : Prop := fnExactNewDiskUptoRow.holds Try.pinned (OpenSpec.upto fnExactNewDiskSpec)

/-- 'laws.FnExactRead', WHERE WHAT IT READS IS OF BULK AT MOST 1048576: true; the input reads as it did. -/
def fnExactReadUptoRow : OpenClaim := { program := "ytgmkdmcbaeaeiaa", sum := "7723206ee4f3a3ef47faf9530511ebddc149634c7e8cc97ca3af862b839842f3", func := "loop.example/g00406/laws.FnExactRead", spec := "fnExactRead", unfollowed := true, recurses := true, apart := false, narrowed := true }
def FnExactReadUptoSaid : Prop := fnExactReadUptoRow.holds Try.pinned (OpenSpec.upto fnExactReadSpec)

/-- 'laws.FnExactWritten', WHERE WHAT IT READS IS OF BULK AT MOST 1048576: true; the input reads as it did. -/
def fnExactWrittenUptoRow : OpenClaim := { program := "ytgmkdmcbaeaeiaa", sum := "7723206ee4f3a3ef47faf9530511ebddc149634c7e8cc97ca3af862b839842f3", func := "loop.example/g00406/laws.FnExactWritten", spec := "fnExactWritten", unfollowed := true, recurses := true, apart := false, narrowed := true }
def FnExactWrittenUptoSaid : Prop := fnExactWrittenUptoRow.holds Try.pinned (OpenSpec.upto fnExactWrittenSpec)

/-- 'laws.FnExactFlushed', WHERE WHAT IT READS IS OF BULK AT MOST 1048576: true; the input reads as it did. -/
def fnExactFlushedUptoRow : OpenClaim := { program := "ytgmkdmcbaeaeiaa", sum := "7723206ee4f3a3ef47faf9530511ebddc149634c7e8cc97ca3af862b839842f3", func := "loop.example/g00406/laws.FnExactFlushed", spec := "fnExactFlushed", apart := false, narrowed := true }
def FnExactFlushedUptoSaid : Prop := fnExactFlushedUptoRow.holds Try.pinned (OpenSpec.upto fnExactFlushedSpec)

/-- 'laws.FnExactFallen', WHERE WHAT IT READS IS OF BULK AT MOST 1048576: true; the input reads as it did. -/
def fnExactFallenUptoRow : OpenClaim := { program := "ytgmkdmcbaeaeiaa", sum := "7723206ee4f3a3ef47faf9530511ebddc149634c7e8cc97ca3af862b839842f3", func := "loop.example/g00406/laws.FnExactFallen", spec := "fnExactFallen", apart := false, narrowed := true }
def FnExactFallenUptoSaid : Prop := fnExactFallenUptoRow.holds Try.pinned (OpenSpec.upto fnExactFallenSpec)

/-- 'laws.FnExactDied', WHERE WHAT IT READS IS OF BULK AT MOST 1048576: true; the input reads as it did. -/
def fnExactDiedUptoRow : OpenClaim := { program := "ytgmkdmcbaeaeiaa", sum := "7723206ee4f3a3ef47faf9530511ebddc149634c7e8cc97ca3af862b839842f3", func := "loop.example/g00406/laws.FnExactDied", spec := "fnExactDied", apart := false, narrowed := true }
def FnExactDiedUptoSaid : Prop := fnExactDiedUptoRow.holds Try.pinned (OpenSpec.upto fnExactDiedSpec)

end Rows
end Go.Proofs.Ytgmkdmcbaeaeiaa
