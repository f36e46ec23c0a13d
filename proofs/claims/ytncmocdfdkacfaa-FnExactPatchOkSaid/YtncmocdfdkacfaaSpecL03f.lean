/- What the specification's functions of chapter 3 return: flushes, crashes, deaths. -/
import Derived.Test.YtncmocdfdkacfaaSpecL03e
namespace Go.Proofs.Ytncmocdfdkacfaa
open Go.ChangeShapes Go.WideShapes Go.ChangeAt Go.RowKit

/-- what l3Flush leaves -/
def FlushS (b B : Nat) (d : DZ) (nv : Value) (w : World) (e : Ending) (w' : World) : Prop :=
  ∃ kv', e = .returned (.tuple #[]) ∧ DBox w' b B { d with k := d.m } kv' nv ∧ w.grownBy w' (some b)
theorem DZ.flush_eq {d : DZ} : ({ d with k := d.m } : DZ).n = d.n ∧ ({ d with k := d.m } : DZ).dead = d.dead := ⟨rfl, rfl⟩
end Go.Proofs.Ytncmocdfdkacfaa
