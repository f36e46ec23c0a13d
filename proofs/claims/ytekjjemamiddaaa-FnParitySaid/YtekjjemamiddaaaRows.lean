/-
  No cell of these rows narrows 'for every input' (looked for: loops, veiled, ifaces, maps, wideKeys, modest, calm, conditions, laid).
  DERIVED. THE GIVEN ROWS OF THIS SEAT. 4 by the template 'for every input the law returns true; each argument reads behind the call as it read before'; 0 by the template 'total and deterministic' (their statements: YtekjjemamiddaaaTotals.lean).
  GIVEN WITH THE SEED: the statements are not yours to turn. If you find one false, say at which input.
  Laid BY PROGRAM, IN A SANDBOX (cutbox-rows.mjs): the forced cells as the released guide's own fill.sh prints them over the translation 213d35eb9dbb6d9e… (all of the seat's roots in one cut). By AI agents, Wed Nov 11 2026. No macro, syntax, notation, axiom, sorry.
-/
import Derived.Test.YtekjjemamiddaaaChecked
import GoSem.Claim
import GoSem.ClaimJoined
import GoSem.ClaimMapViews
import Derived.JoinedTies
import Derived.KernelRfl
namespace Go.Proofs.Ytekjjemamiddaaa
/- THE CELL 'sum', in the pinned program and in every row, IS THE sha256 OF THE DUMP (.gsa) THAT YtekjjemamiddaaaProg.lean LOADS. Nothing in Lean hashes anything: it is a label: what it is worth is what the hold of that sum in a sandbox is worth. -/
noncomputable def Try.pinned : Pinned := { name := "ytekjjemamiddaaa", sum := "213d35eb9dbb6d9e5e567e124e2cd214c6090bf19131066c250cdbb8703ff060", checked := Try.checked }
namespace Rows
def none {H : Type} : Left H := { results := [], args := [] }

/-- 'laws.FnParity': WHATEVER THE INPUT: true; the input reads as it did. -/
def fnParitySpec : ChangeSpec := { name := "fnParity", fn := fun _ => fun
  | [d] => { results := [.lit (.bool true)], args := [d] }
  | _ => none }
def fnParityRow : OpenClaim := { program := "ytekjjemamiddaaa", sum := "213d35eb9dbb6d9e5e567e124e2cd214c6090bf19131066c250cdbb8703ff060", func := "loop.example/g00406/laws.FnParity", spec := "fnParity", unfollowed := true, recurses := true, apart := false }
def FnParitySaid : Prop := fnParityRow.holds Try.pinned (OpenSpec.ofChange fnParitySpec)

/-- ITS FALSE NEIGHBOUR: 'it returns false'. Refute it at one input. -/
def fnParityWrong : ChangeSpec := { name := "fnParity", fn := fun _ => fun
  | [d] => { results := [.lit (.bool false)], args := [d] }
  | _ => none }
def FnParityWrongFalsely : Prop := fnParityRow.holds Try.pinned (OpenSpec.ofChange fnParityWrong)

/-- 'laws.FnExactXor': WHATEVER THE INPUT: true; the input reads as it did. -/
def fnExactXorSpec : ChangeSpec := { name := "fnExactXor", fn := fun _ => fun
  | [d] => { results := [.lit (.bool true)], args := [d] }
  | _ => none }
def fnExactXorRow : OpenClaim := { program := "ytekjjemamiddaaa", sum := "213d35eb9dbb6d9e5e567e124e2cd214c6090bf19131066c250cdbb8703ff060", func := "loop.example/g00406/laws.FnExactXor", spec := "fnExactXor", unfollowed := true, recurses := true, apart := false }
def FnExactXorSaid : Prop := fnExactXorRow.holds Try.pinned (OpenSpec.ofChange fnExactXorSpec)

/-- ITS FALSE NEIGHBOUR: 'it returns false'. Refute it at one input. -/
def fnExactXorWrong : ChangeSpec := { name := "fnExactXor", fn := fun _ => fun
  | [d] => { results := [.lit (.bool false)], args := [d] }
  | _ => none }
def FnExactXorWrongFalsely : Prop := fnExactXorRow.holds Try.pinned (OpenSpec.ofChange fnExactXorWrong)

/-- 'laws.FnExactMissing': WHATEVER THE INPUT: true; the input reads as it did. -/
def fnExactMissingSpec : ChangeSpec := { name := "fnExactMissing", fn := fun _ => fun
  | [d1, d2, d3] => { results := [.lit (.bool true)], args := [d1, d2, d3] }
  | _ => none }
def fnExactMissingRow : OpenClaim := { program := "ytekjjemamiddaaa", sum := "213d35eb9dbb6d9e5e567e124e2cd214c6090bf19131066c250cdbb8703ff060", func := "loop.example/g00406/laws.FnExactMissing", spec := "fnExactMissing", unfollowed := true, recurses := true, apart := false }
def FnExactMissingSaid : Prop := fnExactMissingRow.holds Try.pinned (OpenSpec.ofChange fnExactMissingSpec)

/-- ITS FALSE NEIGHBOUR: 'it returns false'. Refute it at one input. -/
def fnExactMissingWrong : ChangeSpec := { name := "fnExactMissing", fn := fun _ => fun
  | [d1, d2, d3] => { results := [.lit (.bool false)], args := [d1, d2, d3] }
  | _ => none }
def FnExactMissingWrongFalsely : Prop := fnExactMissingRow.holds Try.pinned (OpenSpec.ofChange fnExactMissingWrong)

/-- 'laws.FnExactOdd': WHATEVER THE INPUT: true; the input reads as it did. -/
def fnExactOddSpec : ChangeSpec := { name := "fnExactOdd", fn := fun _ => fun
  | [d] => { results := [.lit (.bool true)], args := [d] }
  | _ => none }
def fnExactOddRow : OpenClaim := { program := "ytekjjemamiddaaa", sum := "213d35eb9dbb6d9e5e567e124e2cd214c6090bf19131066c250cdbb8703ff060", func := "loop.example/g00406/laws.FnExactOdd", spec := "fnExactOdd", unfollowed := true, recurses := true, apart := false }
def FnExactOddSaid : Prop := fnExactOddRow.holds Try.pinned (OpenSpec.ofChange fnExactOddSpec)

/-- ITS FALSE NEIGHBOUR: 'it returns false'. Refute it at one input. -/
def fnExactOddWrong : ChangeSpec := { name := "fnExactOdd", fn := fun _ => fun
  | [d] => { results := [.lit (.bool false)], args := [d] }
  | _ => none }
def FnExactOddWrongFalsely : Prop := fnExactOddRow.holds Try.pinned (OpenSpec.ofChange fnExactOddWrong)

/- THE SECOND FORM. 'bulk': how many values and letters a reading holds, each counted each time it is reached (what is shared counts as often as it is met; a slice's spare places count too). A statement '..UptoSaid' is the law's where the arguments, and the package variables that the reading takes, are together of bulk at most 1048576: NARROWER than '..Said'. Prove '..Said' where nothing that the law and all that it calls make is longer than what came in: it says more and counts as full. Else prove '..UptoSaid'. A law counts once. -/
mutual
def uptoBulk {H : Type} : DataW H → Nat
  | .lit (.string bytes) => bytes.length + 1
  | .lit _ => 1
  | .nil => 1
  | .ptr d => uptoBulk d + 1
  | .slice elems spare => uptoBulkAll elems + uptoBulkAll spare + 1
  | .agg parts => uptoBulkAll parts + 1
  | .iface _ d => uptoBulk d + 1
  | .map entries => uptoBulkEntries entries + 1
  | .held _ => 1
def uptoBulkAll {H : Type} : List (DataW H) → Nat
  | [] => 0
  | d :: r => uptoBulk d + uptoBulkAll r
def uptoBulkEntries {H : Type} : List (Lit × DataW H) → Nat
  | [] => 0
  | x :: r => uptoBulkEntry x + uptoBulkEntries r
def uptoBulkEntry {H : Type} : Lit × DataW H → Nat
  | (.string bytes, d) => bytes.length + uptoBulk d + 1
  | (_, d) => uptoBulk d + 1
 end
def uptoSmall : (H : Type) → List (DataW H) → Bool := fun _ ds => decide (uptoBulkAll ds ≤ 1048576)
def OpenSpec.upto (s : _root_.Go.ChangeSpec) : _root_.Go.OpenSpec := { _root_.Go.OpenSpec.ofChange s with cond := some uptoSmall }

/-- 'laws.FnParity', WHERE WHAT IT READS IS OF BULK AT MOST 1048576: true; the input reads as it did. -/
def fnParityUptoRow : OpenClaim := { program := "ytekjjemamiddaaa", sum := "213d35eb9dbb6d9e5e567e124e2cd214c6090bf19131066c250cdbb8703ff060", func := "loop.example/g00406/laws.FnParity", spec := "fnParity", unfollowed := true, recurses := true, apart := false, narrowed := true }
def FnParityUptoSaid : Prop := fnParityUptoRow.holds Try.pinned (OpenSpec.upto fnParitySpec)

/-- 'laws.FnExactXor', WHERE WHAT IT READS IS OF BULK AT MOST 1048576: true; the input reads as it did. -/
def fnExactXorUptoRow : OpenClaim := { program := "ytekjjemamiddaaa", sum := "213d35eb9dbb6d9e5e567e124e2cd214c6090bf19131066c250cdbb8703ff060", func := "loop.example/g00406/laws.FnExactXor", spec := "fnExactXor", unfollowed := true, recurses := true, apart := false, narrowed := true }
def FnExactXorUptoSaid : Prop := fnExactXorUptoRow.holds Try.pinned (OpenSpec.upto fnExactXorSpec)

/-- 'laws.FnExactMissing', WHERE WHAT IT READS IS OF BULK AT MOST 1048576: true; the input reads as it did. -/
def fnExactMissingUptoRow : OpenClaim := { program := "ytekjjemamiddaaa", sum := "213d35eb9dbb6d9e5e567e124e2cd214c6090bf19131066c250cdbb8703ff060", func := "loop.example/g00406/laws.FnExactMissing", spec := "fnExactMissing", unfollowed := true, recurses := true, apart := false, narrowed := true }
def FnExactMissingUptoSaid : Prop := fnExactMissingUptoRow.holds Try.pinned (OpenSpec.upto fnExactMissingSpec)

/-- 'laws.FnExactOdd', WHERE WHAT IT READS IS OF BULK AT MOST 1048576: true; the input reads as it did. -/
def fnExactOddUptoRow : OpenClaim := { program := "ytekjjemamiddaaa", sum := "213d35eb9dbb6d9e5e567e124e2cd214c6090bf19131066c250cdbb8703ff060", func := "loop.example/g00406/laws.FnExactOdd", spec := "fnExactOdd", unfollowed := true, recurses := true, apart := false, narrowed := true }
def FnExactOddUptoSaid : Prop := fnExactOddUptoRow.holds Try.pinned (OpenSpec.upto fnExactOddSpec)

end Rows
end Go.Proofs.Ytekjjemamiddaaa
